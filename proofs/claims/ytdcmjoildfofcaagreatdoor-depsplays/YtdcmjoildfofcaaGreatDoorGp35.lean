/- Texts of this claim laid together, one behind the other: contracts and plain lemmas; conditions as each names them. -/
import Derived.Test.YtdcmjoildfofcaaGreatDoorGp34
import Derived.Test.YtdcmjoildfofcaaGreatDoorGp27
import Derived.Deep.Slices
import Derived.Test.YtdcmjoildfofcaaGreatDoorGp31
/- A script that came in: ops that hold a transaction and a text. Conditions as each lemma names them. -/
namespace Go.Proofs.YtdcmjoildfofcaaGreatDoor
open Go.ChangeShapes Go.WideShapes Go.ChangeAt Go.RowKit Go.Lib
set_option linter.unusedVariables false
/-- An op. -/
structure Oq where
  kd : Nat
  x : Int
  nn : Int
  wo : Option Addr
  M : Nat
  mc : Nat
  ws : List Wt
  key : ByteArray
def Oq.zero : Oq := ⟨0, 0, 0, none, 0, 0, [], ⟨#[]⟩⟩
def Oq.c (o : Oq) : List Value := [.int .u8 (o.kd : Int), .int .i64 o.x, .int .i64 o.nn, .slice o.wo o.M o.mc, .string o.key]
structure Oq.at (w : World) (o : Oq) : Prop where
  kd : o.kd ≤ 255
  x : i64 o.x
  nn : i64 o.nn
  ws : WRs w o.wo o.ws
  M : o.M = o.ws.length
  key : o.key.size ≤ 140737488355328
/-- The slice that came in reads as the ops os. -/
structure ORs (w : World) (ao : Option Addr) (os : List Oq) : Prop where
  lies : 0 < os.length → ∃ b off, ao = some ⟨b, off, none⟩ ∧ b < w.heap.size ∧ ∀ i, i < os.length → ∀ j, j < 5 → w.cell? ⟨b, off + i * 5 + j, none⟩ = (os.getD i Oq.zero).c[j]?
  few : os.length ≤ 140737488355328
  each : ∀ o ∈ os, o.at w
section
variable {H : Type} {enc : TypeId × Value → H}
theorem Tryz.undOps11 : Tryz.prog.underlying 22 = some (.slice 52) := by kernel_rfl
theorem Tryz.cellsOp11 : Tryz.prog.cellsOf 52 = 5 := by kernel_rfl
theorem Tryz.undB11 : Tryz.prog.underlying 5 = some (.int .u8) := by kernel_rfl
theorem Tryz.cB11 : Tryz.prog.cellsOf 5 = 1 := by kernel_rfl
theorem Tryz.op11Fields : (match Tryz.prog.underlying 52 with | some (.struct fs) => fs.toList.map (fun f => (f.type, f.offset)) | _ => []) = [(5, 0), (3, 1), (50, 2), (9, 4)] := by kernel_rfl
set_option maxRecDepth 100000 in
theorem op11_open {w : World} {fuel : Nat} {cs : List Value} {x : DataW H × List MemPlace} (h : DataW.trod enc Tryz.prog w 0 (fun _ => true) true fuel 52 cs = some x) (hsz : ∀ n ∈ x.1.weights Tryz.prog 52, n ≤ reachBytes) :
    ∃ o : Oq, cs = o.c ∧ o.at w := by
  have hF := Tryz.op11Fields
  cases hu : Tryz.prog.underlying 52 with
  | none => rw [hu] at hF; simp at hF
  | some u =>
    rw [hu] at hF
    cases u with
    | struct fs =>
      simp only at hF
      obtain ⟨ys, n, _, hx, hlen, hys, hf⟩ := DataW.trod_struct hu h
      rw [Tryz.cellsOp11] at hlen
      match cs, hlen with
      | [v0, v1, v2, v3, v4], _ =>
        have hl2 : fs.toList.length = 4 := by have := congrArg List.length hF; simpa using this
        obtain ⟨l, hl⟩ : ∃ l, l = fs.toList := ⟨_, rfl⟩
        rw [← hl] at hF hl2
        match l, hl2 with
        | [f0, f1, f2, f3], _ =>
          simp only [List.map_cons, List.map_nil, List.cons.injEq, Prod.mk.injEq, and_true] at hF
          obtain ⟨⟨t0, o0⟩, ⟨t1, o1⟩, ⟨t2, o2⟩, ⟨t3, o3⟩⟩ := hF
          have g : ∀ (i : Nat) (f : Field), [f0, f1, f2, f3][i]? = some f → fs[i]? = some f := by
            intro i f hi
            rw [hl] at hi
            simpa using hi
          have r0 := hf 0 f0 (g 0 f0 rfl)
          have r1 := hf 1 f1 (g 1 f1 rfl)
          have r2 := hf 2 f2 (g 2 f2 rfl)
          have r3 := hf 3 f3 (g 3 f3 rfl)
          rw [t0, o0, Tryz.cB11] at r0
          rw [t1, o1, Tryz.cI] at r1
          rw [t2, o2, Tryz.cellsT] at r2
          rw [t3, o3, Tryz.cS] at r3
          simp only [List.drop_zero, List.drop_succ_cons, List.take_succ_cons, List.take_zero] at r0 r1 r2 r3
          have hy2 : ys.length = 4 := by rw [hys]; have := congrArg List.length hl; simpa using this.symm
          match ys, hy2 with
          | [y0, y1, y2, y3], _ =>
            simp only [List.getElem?_cons_zero, List.getElem?_cons_succ] at r0 r1 r2 r3
            have hty : fs.toList.map (·.type) = [5, 3, 50, 9] := by rw [← hl]; simp [t0, t1, t2, t3]
            have hw : ∀ (j : Nat) (t : TypeId) (d : DataW H), [5, 3, 50, 9][j]? = some t → [y0.1, y1.1, y2.1, y3.1][j]? = some d → ∀ q ∈ d.weights Tryz.prog t, q ≤ reachBytes := fun j t d h1 h2 q hq => by
              apply hsz
              rw [hx]
              simp only [DataW.weights, hu]
              rw [hty]
              exact DataW.weights_mem_each (j := j) (t := t) (d := d) h1 h2 _ hq
            obtain ⟨k0, e0, _, w0⟩ := DataW.trod_int Tryz.undB11 r0
            obtain ⟨k1, e1, _, w1⟩ := DataW.trod_int Tryz.undI r1
            obtain ⟨nn, ao, L, cap, ws, e2, hT⟩ := tx_open (x := y2) r2 (hw 2 50 y2.1 rfl rfl)
            obtain ⟨s3, e3, x3, _⟩ := DataW.trod_string Tryz.undStr r3
            have b0 := bounds_u8 w0
            have b1 := bounds_i64 w1
            simp only [List.cons.injEq, and_true] at e0 e1 e2 e3
            have hk := hw 3 9 y3.1 rfl rfl s3.size (by rw [x3]; simp only [DataW.weights, List.mem_singleton]; show s3.data.size = _; simp)
            have hr := reachBytes_lt
            refine ⟨⟨k0.toNat, k1, nn, ao, L, cap, ws, s3⟩, ?_, ⟨by simp only; omega, ⟨b1.1, b1.2⟩, ⟨hT.n0, hT.n1⟩, hT.rs, hT.len, by simp only; omega⟩⟩
            simp only [Oq.c]
            rw [e0, e1, e2.1, e2.2, e3, show ((k0.toNat : Nat) : Int) = k0 by omega]
    | _ => simp at hF
theorem ops11_open {w : World} {fuel : Nat} {v : Value} {d : DataW H} {ps : List MemPlace} (h : DataW.trod enc Tryz.prog w 0 (fun _ => true) true fuel 22 [v] = some (d, ps)) (hsz : ∀ n ∈ d.weights Tryz.prog 22, n ≤ reachBytes) :
    ∃ ao L cap os, v = .slice ao L cap ∧ ORs w ao os ∧ L = os.length ∧ L ≤ cap := by
  rcases Go.Deep.open_slice Tryz.undOps11 h with ⟨hcs, _⟩ | ⟨a, len, cap, m, n, D, Pl, hcs, hb, hl, hm, hmm, hx, hE⟩
  · simp only [List.cons.injEq, and_true] at hcs
    exact ⟨none, 0, 0, [], hcs, ⟨fun h => by simp at h, by simp, by simp⟩, rfl, Nat.le_refl _⟩
  · simp only [List.cons.injEq, and_true] at hcs
    simp only [if_true] at hmm
    subst hmm
    rw [Tryz.cellsOp11] at hE hx
    have hd : d = .slice ((List.range len).map D) ((List.range (m - len)).map fun j => D (len + j)) := by have := congrArg Prod.fst hx; simpa using this
    have hr := reachBytes_lt
    have hW : ∀ i, i < len → ∀ q ∈ (D i).weights Tryz.prog 52, q ≤ reachBytes := by
      intro i hi q hq
      apply hsz
      rw [hd]
      simp only [DataW.weights, Tryz.undOps11]
      refine List.mem_cons_of_mem _ (List.mem_append_left _ ?_)
      exact weightsAll_mem (List.mem_map.2 ⟨i, by simpa using hi, rfl⟩) _ hq
    have hO : ∀ i, i < len → ∃ o : Oq, (w.cells? 0 (a.add (i * 5)) 5 = some o.c) ∧ o.at w := by
      intro i hi
      obtain ⟨cs', h1, h2⟩ := hE i (by omega)
      obtain ⟨o, rfl, hT⟩ := op11_open h2 (hW i hi)
      exact ⟨o, h1, hT⟩
    haveI : Inhabited Oq := ⟨Oq.zero⟩
    obtain ⟨F, hF⟩ := Go.Deep.choose_lt hO
    have hlen : len ≤ 140737488355328 := by
      have hw : len * Tryz.prog.bytesOf 52 ≤ reachBytes := by
        refine Nat.le_trans (Nat.mul_le_mul_right _ hl) (hsz _ ?_)
        rw [hd]
        simp only [DataW.weights, Tryz.undOps11, List.length_map, List.length_range]
        rw [show len + (m - len) = m by omega]
        exact List.mem_cons_self
      have hb40 : 1 ≤ Tryz.prog.bytesOf 52 := by
        have e : decide (1 ≤ Tryz.prog.bytesOf 52) = true := by kernel_rfl
        simpa using e
      have := Nat.le_mul_of_pos_right len hb40
      omega
    refine ⟨some a, len, m, (List.range len).map F, hcs, ⟨fun h0 => ?_, by simpa using hlen, ?_⟩, by simp, hl⟩
    · simp only [List.length_map, List.length_range] at h0 ⊢
      have hc0 := (World.cells?_some (hF 0 (by omega)).1).2.2
      obtain ⟨b, off, spot⟩ := a
      have hspot : spot = none := by
        have := hc0 0 (by omega)
        simp [Oq.c] at this
        simpa [Addr.add] using World.cell?_spot this
      subst hspot
      have hcell : ∀ i, i < len → ∀ j, j < 5 → w.cell? ⟨b, off + i * 5 + j, none⟩ = (F i).c[j]? := by
        intro i hi j hj
        have := (World.cells?_some (hF i (by omega)).1).2.2 j hj
        rw [show ((⟨b, off, none⟩ : Addr).add (i * 5)).add j = ⟨b, off + i * 5 + j, none⟩ from by rw [Addr.add_lit, Addr.add_lit]] at this
        exact this
      refine ⟨b, off, rfl, World.block_lt_of_cell? w ⟨b, off + 0 * 5 + 0, none⟩ (by rw [hcell 0 (by omega) 0 (by omega)]; rfl), fun i hi j hj => ?_⟩
      have e : ((List.range len).map F).getD i Oq.zero = F i := by simp [List.getD, hi]
      rw [e]
      exact hcell i hi j hj
    · intro t ht
      obtain ⟨i, hi, rfl⟩ := List.mem_map.1 ht
      exact (hF i (by simpa using hi)).2
end
end Go.Proofs.YtdcmjoildfofcaaGreatDoor
/- How great a transaction is: one answer, in whatever world. Conditions as each names them. -/
namespace Go.Proofs.YtdcmjoildfofcaaGreatDoor
open Go.ChangeShapes Go.WideShapes Go.ChangeAt Go.RowKit Go.Lib
set_option linter.unusedVariables false
set_option linter.unusedSimpArgs false
def wszG : Nat → List Wt → Nat
  | n, [] => n
  | n, x :: r => if n ≤ 1048576 then wszG (n + x.key.size + x.val.size) r else n
theorem wszG_stop {n : Nat} (h : ¬ n ≤ 1048576) (xs : List Wt) : wszG n xs = n := by
  cases xs with
  | nil => rfl
  | cons x r => simp [wszG, h]
def tszG : Nat → List Tm → Nat
  | n, [] => n
  | n, t :: r => if n ≤ 1048576 then tszG (n + (wszG t.ws.length t.ws + 1)) r else n
theorem tszG_stop {n : Nat} (h : ¬ n ≤ 1048576) (xs : List Tm) : tszG n xs = n := by
  cases xs with
  | nil => rfl
  | cons x r => simp [tszG, h]
theorem dropW_cons (xs : List Wt) (i : Nat) (h : i < xs.length) : xs.drop i = xs.getD i Wt.zero :: xs.drop (i + 1) := by
  rw [List.drop_eq_getElem_cons h]
  simp [List.getD, h]
theorem dropT_cons (xs : List Tm) (i : Nat) (h : i < xs.length) : xs.drop i = xs.getD i Tm.zero :: xs.drop (i + 1) := by
  rw [List.drop_eq_getElem_cons h]
  simp [List.getD, h]
set_option maxHeartbeats 4000000 in
set_option maxRecDepth 100000 in
theorem wsSizeD_any (a : Option Addr) (L ca : Nat) (xs : List Wt) (R : Nat) (w : World) (ha : WRs w a xs) (hL : L = xs.length) (hR : wszG L xs = R) :
    Calls Tryz.prog 58 #[.slice a L ca] w fun e w' => e = .returned (.int .i64 (R : Int)) ∧ R ≤ 422212465065984 ∧ Fr [] w w' := by
  have HL : Hid (L = xs.length) := hL
  have HR : Hid (wszG L xs = R) := hR
  have HA : Hid (∀ W, Fr [] w W → WRs W a xs) := fun W hf => ha.keep hf
  have hLl : L ≤ 140737488355328 := by have := ha.few; omega
  clear hL hR ha
  go_enter Tryz.func58, Tryz.ntmps58
  go_wp2_with fail
  go_loopw [3, 4] (fun vv ii wr => ∃ (n i : Nat), vv = .int .i64 n ∧ ii = .int .i64 i ∧ i ≤ L ∧ n ≤ 422212465065984 ∧ Hid (wszG n (xs.drop i) = R) ∧ Fr [] w wr) (fun _ ii _ => L - (RowKit.intOf ii).toNat)
  case atStart => exact ⟨L, 0, rfl, rfl, Nat.zero_le _, by omega, by rw [List.drop_zero]; exact HR.out, Fr.refl _ _⟩
  case round =>
    obtain ⟨n, i, rfl, rfl, hiL, hn, HE, hFr⟩ := hrel
    by_cases hi : i < L
    · by_cases hbig : 1048576 < n
      · have hb' : (1048576 : Int) < n := by omega
        have hi' : (i : Int) < L := by omega
        obtain rfl : n = R := by rw [← HE.out]; exact (wszG_stop (by omega) _).symm
        go_wp2
        go_ret
        first | exact ⟨rfl, hn, hFr⟩ | exact ⟨rfl, hFr⟩
      · have hb' : (n : Int) ≤ 1048576 := by omega
        have hil : i < xs.length := by rw [← HL.out]; exact hi
        have hA := HA.out _ hFr
        obtain ⟨ba, oa, rfl, _, hca⟩ := hA.lies (by omega)
        obtain ⟨c0, c1, c2⟩ := hca i hil
        have hm := hA.each _ (wgetD_mem xs i hil)
        have hE := HE.out
        rw [dropW_cons xs i hil] at hE
        obtain ⟨x, hxx⟩ : ∃ x, x = xs.getD i Wt.zero := ⟨_, rfl⟩
        rw [← hxx] at c0 c1 c2 hm hE
        simp only [wszG] at hE
        rw [if_pos (by omega)] at hE
        obtain ⟨key, val, drop⟩ := x
        simp only at c0 c1 c2 hm hE
        have HE2 : Hid (wszG (n + key.size + val.size) (xs.drop (i + 1)) = R) := hE
        have hk1 := hm.1
        have hv1 := hm.2
        clear hxx hca hm hE hA HE
        go_wp2_with fail
        go_quiet (fail)
        go_wp2
        exact ⟨⟨n + key.size + val.size, i + 1, by simp, by simp, by omega, by omega, HE2, hFr.then (Fr.drewN _ _ _)⟩, by simp [RowKit.intOf]; omega⟩
    · obtain rfl : n = R := by
        have := HE.out
        rw [List.drop_of_length_le (by have := HL.out; omega)] at this
        exact this
      go_wp2
      go_ret
      first | exact ⟨rfl, hn, hFr⟩ | exact ⟨rfl, hFr⟩
set_option maxHeartbeats 2000000 in
set_option maxRecDepth 100000 in
theorem txSizeD_any (m : Int) (a : Option Addr) (L ca R : Nat) (xs : List Wt) (w : World) (ha : WRs w a xs) (hL : L = xs.length) (hR : wszG L xs = R) :
    Calls Tryz.prog 9 #[.agg #[.int .i64 m, .slice a L ca]] w fun e w' => e = .returned (.int .i64 ((R : Int) + 1)) ∧ R ≤ 422212465065984 ∧ Fr [] w w' := by
  have HL : Hid (L = xs.length) := hL
  have HR : Hid (wszG L xs = R) := hR
  clear hL hR
  have hF0 : Fr [] w (w.alloc (.cells #[.int .i64 m, .slice a L ca] 50)) := Fr.alloc [] w _
  have ha0 := ha.keep hF0
  go_enter Tryz.func9, Tryz.ntmps9
  go_wp2_with fail
  refine (wsSizeD_any a L ca xs R _ ha0 HL.out HR.out).mono ?_
  rintro e w1 ⟨rfl, hN, hF1⟩
  go_wp2
  go_ret
  exact ⟨by simp; omega, hN, hF0.then hF1⟩
theorem wszG_ge : ∀ (xs : List Wt) (n : Nat), n ≤ wszG n xs
  | [], n => Nat.le_refl _
  | x :: r, n => by
    unfold wszG
    split
    · exact Nat.le_trans (by omega) (wszG_ge r _)
    · exact Nat.le_refl _
end Go.Proofs.YtdcmjoildfofcaaGreatDoor
