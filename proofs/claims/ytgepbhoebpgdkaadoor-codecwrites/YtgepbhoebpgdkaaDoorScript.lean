/- A script of operations that came in: how it lies in memory, and the statements' own test of its size. Conditions as each lemma names them. -/
import Derived.Test.YtgepbhoebpgdkaaDoorSame
import Derived.ShutString
import Derived.ChangeOld
import Derived.Below
import Derived.Deep.Slices
import Derived.SizedLaws
namespace Go.Proofs.YtgepbhoebpgdkaaDoor
open Go.ChangeShapes Go.WideShapes Go.ChangeAt Go.RowKit Go.Lib

/-- An operation of a script. -/
structure OpV where
  k : Int
  n : Int
  width : Int
  text : ByteArray
  most : Int
def OpV.zero : OpV := ⟨0, 0, 0, ⟨#[]⟩, 0⟩
/-- It lies at o in block b. -/
structure OpAt (w : World) (b o : Nat) (v : OpV) : Prop where
  c0 : w.cell? ⟨b, o, none⟩ = some (.int .u8 v.k)
  c1 : w.cell? ⟨b, o + 1, none⟩ = some (.int .u64 v.n)
  c2 : w.cell? ⟨b, o + 2, none⟩ = some (.int .i64 v.width)
  c3 : w.cell? ⟨b, o + 3, none⟩ = some (.string v.text)
  c4 : w.cell? ⟨b, o + 4, none⟩ = some (.int .i64 v.most)
structure OpV.ok (v : OpV) : Prop where
  k0 : 0 ≤ v.k
  k1 : v.k ≤ 255
  n0 : 0 ≤ v.n
  n1 : v.n ≤ 18446744073709551615
  w0 : -9223372036854775808 ≤ v.width
  w1 : v.width ≤ 9223372036854775807
  m0 : -9223372036854775808 ≤ v.most
  m1 : v.most ≤ 9223372036854775807
  t1 : v.text.size ≤ 140737488355328
/-- The script that came in. -/
structure SArg (w : World) (ao : Option Addr) (L cap : Nat) (os : List OpV) : Prop where
  len : L = os.length
  each : ∀ v ∈ os, v.ok
  fits : L ≤ cap
  most : L ≤ 9223372036854775807
  lies : 0 < L → ∃ b off, ao = some ⟨b, off, none⟩ ∧ b < w.heap.size ∧ ∀ i, i < L → OpAt w b (off + i * 5) (os.getD i OpV.zero)
def total : List OpV → Nat
  | [] => 0
  | v :: r => 10 + v.text.size + total r
theorem total_snoc (l : List OpV) (v : OpV) : total (l ++ [v]) = total l + 10 + v.text.size := by
  induction l with
  | nil => simp [total]
  | cons a r ih => simp only [List.cons_append, total, ih]; omega
theorem total_take_le (l : List OpV) (i : Nat) : total (l.take i) ≤ total l := by
  induction l generalizing i with
  | nil => simp
  | cons a r ih =>
    cases i with
    | zero => simp [total]
    | succ i => simp only [List.take_succ_cons, total]; have := ih i; omega
theorem getD_mem (os : List OpV) (i : Nat) (h : i < os.length) : os.getD i OpV.zero ∈ os := by
  simp [List.getD, h]
theorem take_snoc (os : List OpV) (i : Nat) (h : i < os.length) : os.take (i + 1) = os.take i ++ [os.getD i OpV.zero] := by
  rw [List.take_add_one]
  simp [List.getD, h]

set_option maxHeartbeats 2000000 in
set_option maxRecDepth 100000 in
theorem script_any (ao : Option Addr) (L cap : Nat) (os : List OpV) (w : World) (h : SArg w ao L cap os) :
    Calls Tryd.prog 4 #[.slice ao L cap] w fun e w' => e = .returned (.bool (decide (1048576 < total os))) ∧ w = w' := by
  have HL : Hid (L = os.length) := h.len
  have hLm := h.most
  by_cases h0 : 0 < L
  · obtain ⟨b, off, rfl, _, hc⟩ := h.lies h0
    obtain ⟨B, hB⟩ : ∃ B, B = decide (1048576 < total os) := ⟨_, rfl⟩
    rw [← hB]
    have HB : Hid (B = decide (1048576 < total os)) := hB
    clear hB
    go_enter Tryd.func4, Tryd.ntmps4
    go_wp2_with fail
    go_loop [3, 4] (fun vv ii => ∃ (n i : Nat), vv = .int .i64 n ∧ ii = .int .i64 i ∧ i ≤ L ∧ n ≤ 1048576 ∧ Hid (n = total (os.take i))) (fun _ ii => L - (intOf ii).toNat)
    case atStart => exact ⟨0, 0, rfl, rfl, Nat.zero_le _, by omega, rfl⟩
    case round =>
      obtain ⟨n, i, rfl, rfl, hiL, hn, E⟩ := hrel
      by_cases hi : i < L
      · have hO := hc i hi
        have hok := h.each _ (getD_mem os i (by rw [← HL.out]; exact hi))
        have hE2 := total_snoc (os.take i) (os.getD i OpV.zero)
        rw [← take_snoc os i (by rw [← HL.out]; exact hi), ← E.out] at hE2
        obtain ⟨v, hv⟩ : ∃ v, v = os.getD i OpV.zero := ⟨_, rfl⟩
        rw [← hv] at hO hok hE2
        have c3 := hO.c3
        have t1 := hok.t1
        obtain ⟨T, hT⟩ : ∃ T, T = v.text := ⟨_, rfl⟩
        rw [← hT] at c3 t1 hE2
        clear hT hO hok hc hv
        have HE : Hid (total (os.take (i + 1)) = n + 10 + T.size) := hE2
        clear hE2
        by_cases hbig : 1048576 < n + 10 + T.size
        · have HB' : Hid (B = true) := by
            show B = true
            rw [HB.out, decide_eq_true_eq]
            have := total_take_le os (i + 1)
            rw [HE.out] at this
            omega
          have hb' : (1048576 : Int) < n + 10 + T.size := by omega
          go_wp2
          go_ret
          rw [HB'.out]
          exact ⟨rfl, rfl⟩
        · have hb' : (n : Int) + 10 + T.size ≤ 1048576 := by omega
          go_wp2
          go_round
          case rel => exact ⟨n + 10 + T.size, i + 1, by simp, by simp, by omega, by omega, HE.out.symm⟩
          case measure => simp [intOf]; omega
      · have HB' : Hid (B = false) := by
          show B = false
          rw [HB.out, decide_eq_false_iff_not]
          have := E.out
          rw [List.take_of_length_le (by rw [← HL.out]; omega)] at this
          omega
        go_wp2
        go_ret
        rw [HB'.out]
        exact ⟨rfl, rfl⟩
  · obtain rfl : L = 0 := by omega
    have : os = [] := List.eq_nil_of_length_eq_zero HL.out.symm
    subst this
    go_enter Tryd.func4, Tryd.ntmps4
    go_wp2_with fail
    refine wp_loop_rounds 1 ?_
    rw [rounds_succ]
    go_wp2
    go_ret
    exact ⟨rfl, rfl⟩

theorem SArg.keep {w w' : World} {ao : Option Addr} {L cap : Nat} {os : List OpV} (h : SArg w ao L cap os) (hf : Fr [] w w') : SArg w' ao L cap os := by
  refine ⟨h.len, h.each, h.fits, h.most, fun h0 => ?_⟩
  obtain ⟨b, off, e, hb, hc⟩ := h.lies h0
  have hk : ∀ o, w'.cell? ⟨b, o, none⟩ = w.cell? ⟨b, o, none⟩ := fun o => World.cell?_of_block (hf.block b hb (by simp))
  refine ⟨b, off, e, Nat.lt_of_lt_of_le hb hf.size, fun i hi => ?_⟩
  have h1 := hc i hi
  exact ⟨(hk _).trans h1.c0, (hk _).trans h1.c1, (hk _).trans h1.c2, (hk _).trans h1.c3, (hk _).trans h1.c4⟩

section
variable {H : Type} {enc : TypeId × Value → H}
theorem weightsAll_mem {P : Program} {e : TypeId} : ∀ {ds : List (DataW H)} {d : DataW H}, d ∈ ds → ∀ n ∈ d.weights P e, n ∈ DataW.weightsAll P e ds
  | x :: r, d, hd, n, hn => by
    simp only [DataW.weightsAll, List.mem_append]
    rcases List.mem_cons.1 hd with rfl | hd
    · exact Or.inl hn
    · exact Or.inr (weightsAll_mem hd n hn)
theorem Tryd.undOps : Tryd.prog.underlying 22 = some (.slice 44) := by kernel_rfl
theorem Tryd.cellsOp : Tryd.prog.cellsOf 44 = 5 := by kernel_rfl
theorem Tryd.opFields : (match Tryd.prog.underlying 44 with | some (.struct fs) => fs.toList.map (fun f => (f.type, f.offset)) | _ => []) = [(5, 0), (42, 1), (3, 2), (9, 3), (3, 4)] := by kernel_rfl
theorem Tryd.undI : Tryd.prog.underlying 3 = some (.int .i64) := by kernel_rfl
theorem Tryd.undU : Tryd.prog.underlying 42 = some (.int .u64) := by kernel_rfl
theorem Tryd.cB : Tryd.prog.cellsOf 5 = 1 := by kernel_rfl
theorem Tryd.cU : Tryd.prog.cellsOf 42 = 1 := by kernel_rfl
theorem Tryd.cI : Tryd.prog.cellsOf 3 = 1 := by kernel_rfl
theorem Tryd.cS : Tryd.prog.cellsOf 9 = 1 := by kernel_rfl

set_option maxRecDepth 100000 in
theorem op_open {w : World} {base : Nat} {spare : Nat → Bool} {held : Bool} {fuel : Nat} {cs : List Value} {x : DataW H × List MemPlace} (h : DataW.trod enc Tryd.prog w base spare held fuel 44 cs = some x) :
    ∃ v : OpV, cs = [.int .u8 v.k, .int .u64 v.n, .int .i64 v.width, .string v.text, .int .i64 v.most] ∧ (0 ≤ v.k ∧ v.k ≤ 255) ∧ (0 ≤ v.n ∧ v.n ≤ 18446744073709551615) ∧ (-9223372036854775808 ≤ v.width ∧ v.width ≤ 9223372036854775807) ∧ (-9223372036854775808 ≤ v.most ∧ v.most ≤ 9223372036854775807) ∧
      v.text.size ∈ x.1.weights Tryd.prog 44 := by
  have hF := Tryd.opFields
  cases hu : Tryd.prog.underlying 44 with
  | none => rw [hu] at hF; simp at hF
  | some u =>
    rw [hu] at hF
    cases u with
    | struct fs =>
      simp only at hF
      obtain ⟨ys, n, _, hx, hlen, hys, hf⟩ := DataW.trod_struct hu h
      rw [Tryd.cellsOp] at hlen
      match cs, hlen with
      | [v0, v1, v2, v3, v4], _ =>
        have hl5 : fs.toList.length = 5 := by have := congrArg List.length hF; simpa using this
        obtain ⟨l, hl⟩ : ∃ l, l = fs.toList := ⟨_, rfl⟩
        rw [← hl] at hF hl5
        match l, hl5 with
        | [f0, f1, f2, f3, f4], _ =>
          simp only [List.map_cons, List.map_nil, List.cons.injEq, Prod.mk.injEq, and_true] at hF
          obtain ⟨⟨t0, o0⟩, ⟨t1, o1⟩, ⟨t2, o2⟩, ⟨t3, o3⟩, ⟨t4, o4⟩⟩ := hF
          have g : ∀ (i : Nat) (f : Field), [f0, f1, f2, f3, f4][i]? = some f → fs[i]? = some f := by
            intro i f hi
            rw [hl] at hi
            simpa using hi
          have r0 := hf 0 f0 (g 0 f0 rfl)
          have r1 := hf 1 f1 (g 1 f1 rfl)
          have r2 := hf 2 f2 (g 2 f2 rfl)
          have r3 := hf 3 f3 (g 3 f3 rfl)
          have r4 := hf 4 f4 (g 4 f4 rfl)
          rw [t0, o0, Tryd.cB] at r0
          rw [t1, o1, Tryd.cU] at r1
          rw [t2, o2, Tryd.cI] at r2
          rw [t3, o3, Tryd.cS] at r3
          rw [t4, o4, Tryd.cI] at r4
          simp only [List.drop_zero, List.drop_succ_cons, List.take_succ_cons, List.take_zero] at r0 r1 r2 r3 r4
          have hy5 : ys.length = 5 := by rw [hys]; have := congrArg List.length hl; simpa using this.symm
          match ys, hy5 with
          | [y0, y1, y2, y3, y4], _ =>
            simp only [List.getElem?_cons_zero, List.getElem?_cons_succ] at r0 r1 r2 r3 r4
            obtain ⟨k, e0, _, w0⟩ := DataW.trod_int Tryd.undB r0
            obtain ⟨nn, e1, _, w1⟩ := DataW.trod_int Tryd.undU r1
            obtain ⟨wd, e2, _, w2⟩ := DataW.trod_int Tryd.undI r2
            obtain ⟨tx, e3, x3, _⟩ := DataW.trod_string Tryd.undStr r3
            obtain ⟨ms, e4, _, w4⟩ := DataW.trod_int Tryd.undI r4
            simp only [List.cons.injEq, and_true] at e0 e1 e2 e3 e4
            refine ⟨⟨k, nn, wd, tx, ms⟩, by rw [e0, e1, e2, e3, e4], bounds_u8 w0, bounds_u64 w1, bounds_i64 w2, bounds_i64 w4, ?_⟩
            rw [hx]
            simp only [DataW.weights, hu]
            have hty : fs.toList.map (·.type) = [5, 42, 3, 9, 3] := by rw [← hl]; simp [t0, t1, t2, t3, t4]
            rw [hty]
            refine DataW.weights_mem_each (j := 3) (t := 9) (d := y3.1) rfl rfl _ ?_
            rw [x3]
            simp only [DataW.weights, List.mem_singleton]
            show tx.data.size = _
            simp
    | _ => simp at hF

set_option maxRecDepth 100000 in
theorem SArg.of_trod {w : World} {fuel : Nat} {v : Value} {d : DataW H} {ps : List MemPlace} (h : DataW.trod enc Tryd.prog w 0 (fun _ => true) true fuel 22 [v] = some (d, ps)) (hsz : ∀ n ∈ d.weights Tryd.prog 22, n ≤ reachBytes) :
    ∃ ao L cap os, v = .slice ao L cap ∧ SArg w ao L cap os := by
  rcases Go.Deep.open_slice Tryd.undOps h with ⟨hcs, _⟩ | ⟨a, len, cap, m, n, D, Pl, hcs, hb, hl, hm, hmm, hx, hE⟩
  · simp only [List.cons.injEq, and_true] at hcs
    exact ⟨none, 0, 0, [], hcs, rfl, by simp, Nat.le_refl _, by omega, fun h => by omega⟩
  · simp only [List.cons.injEq, and_true] at hcs
    simp only [if_true] at hmm
    subst hmm
    rw [Tryd.cellsOp] at hE hx
    have hO : ∀ i, i < m → ∃ o : OpV, (w.cells? 0 (a.add (i * 5)) 5 = some [.int .u8 o.k, .int .u64 o.n, .int .i64 o.width, .string o.text, .int .i64 o.most]) ∧ (0 ≤ o.k ∧ o.k ≤ 255) ∧ (0 ≤ o.n ∧ o.n ≤ 18446744073709551615) ∧ (-9223372036854775808 ≤ o.width ∧ o.width ≤ 9223372036854775807) ∧ (-9223372036854775808 ≤ o.most ∧ o.most ≤ 9223372036854775807) ∧ o.text.size ∈ (D i).weights Tryd.prog 44 := by
      intro i hi
      obtain ⟨cs', h1, h2⟩ := hE i hi
      obtain ⟨o, rfl, rest⟩ := op_open h2
      exact ⟨o, h1, rest⟩
    haveI : Inhabited OpV := ⟨OpV.zero⟩
    obtain ⟨F, hF⟩ := Go.Deep.choose_lt hO
    have hd : d = .slice ((List.range len).map D) ((List.range (m - len)).map fun j => D (len + j)) := by have := congrArg Prod.fst hx; simpa using this
    refine ⟨some a, len, m, (List.range len).map F, hcs, by simp, ?_, hl, by simp only [maxLen] at hm; omega, fun h0 => ?_⟩
    · intro o ho
      obtain ⟨i, hi, rfl⟩ := List.mem_map.1 ho
      have hi' : i < len := by simpa using hi
      obtain ⟨_, hk, hn, hw, hmo, ht⟩ := hF i (by omega)
      refine ⟨hk.1, hk.2, hn.1, hn.2, hw.1, hw.2, hmo.1, hmo.2, ?_⟩
      have : (F i).text.size ≤ reachBytes := by
        apply hsz
        rw [hd]
        simp only [DataW.weights, Tryd.undOps]
        refine List.mem_cons_of_mem _ (List.mem_append_left _ ?_)
        exact weightsAll_mem (List.mem_map.2 ⟨i, by simpa using hi', rfl⟩) _ ht
      have hr := reachBytes_lt
      omega
    · have hc0 := (World.cells?_some (hF 0 (by omega)).1).2.2
      obtain ⟨b, off, spot⟩ := a
      have hspot : spot = none := by
        have := hc0 0 (by omega)
        simp at this
        simpa [Addr.add] using World.cell?_spot this
      subst hspot
      have hcell : ∀ i, i < len → ∀ j, j < 5 → w.cell? ⟨b, off + i * 5 + j, none⟩ = [Value.int .u8 (F i).k, .int .u64 (F i).n, .int .i64 (F i).width, .string (F i).text, .int .i64 (F i).most][j]? := by
        intro i hi j hj
        have := (World.cells?_some (hF i (by omega)).1).2.2 j hj
        rw [show ((⟨b, off, none⟩ : Addr).add (i * 5)).add j = ⟨b, off + i * 5 + j, none⟩ from by rw [Addr.add_lit, Addr.add_lit]] at this
        exact this
      refine ⟨b, off, rfl, World.block_lt_of_cell? w ⟨b, off + 0 * 5 + 0, none⟩ (by rw [hcell 0 (by omega) 0 (by omega)]; rfl), fun i hi => ?_⟩
      have e : ((List.range len).map F).getD i OpV.zero = F i := by simp [List.getD, hi]
      rw [e]
      exact ⟨hcell i hi 0 (by omega), hcell i hi 1 (by omega), hcell i hi 2 (by omega), hcell i hi 3 (by omega), hcell i hi 4 (by omega)⟩
end
end Go.Proofs.YtgepbhoebpgdkaaDoor
