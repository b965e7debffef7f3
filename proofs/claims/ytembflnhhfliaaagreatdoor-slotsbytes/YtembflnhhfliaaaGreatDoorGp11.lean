/- Contracts and plain lemmas of this claim. -/
import Derived.Test.YtembflnhhfliaaaGreatDoorGp10
set_option linter.unusedSimpArgs false
set_option linter.unusedVariables false
set_option maxHeartbeats 8000000
set_option maxRecDepth 100000
namespace Go.Proofs.YtembflnhhfliaaaGreatDoor
open Go.ChangeShapes Go.WideShapes Go.ChangeAt Go.RowKit Go.Lib Go.Maps
def gl {α : Type} (l : List α) : Except Nat (List α × List Nat) -> Except Nat (List α × List Nat)
  | .error e => .error e
  | .ok (m, r) => .ok (l ++ m, r)
theorem znj {α : Type} (x : Except Nat (List α × List Nat)) : gl [] x = x := by
  cases x with
  | error e => rfl
  | ok p => rfl
theorem zrg {α : Type} {f : List Nat -> Except Nat (α × List Nat)} {l : List α} {k : Nat} {ys zs : List Nat} {x : α} (h : f ys = .ok (x, zs)) : gl l (dR f (k + 1) ys) = gl (l ++ [x]) (dR f k zs) := by
  rw [dR, h]
  simp only
  cases dR f k zs with
  | error e => rfl
  | ok p => simp [gl]
theorem znk {α : Type} {f : List Nat -> Except Nat (α × List Nat)} {l : List α} {k c : Nat} {ys : List Nat} (h : f ys = .error c) : gl l (dR f (k + 1) ys) = .error c := by
  rw [dR, h]
  rfl
theorem znl {α : Type} (f : List Nat -> Except Nat (α × List Nat)) (l : List α) (ys : List Nat) : gl l (dR f 0 ys) = .ok (l, ys) := by simp [dR, gl]
theorem znm {xs ys : List Nat} {n : Nat} (h : dN xs = .ok (n, ys)) : n <= 65536 := by
  have h3 := (zjp h).2.2.1
  unfold refL at h3
  split at h3
  · cases h3
  · omega
theorem zgp {α : Type} {f : List Nat -> Except Nat (α × List Nat)} {xs ys : List Nat} {n : Nat} (h : dN xs = .ok (n, ys)) : dL f xs = dR f n ys := by unfold dL; rw [h]
theorem zic {α : Type} {f : List Nat -> Except Nat (α × List Nat)} {xs : List Nat} {c : Nat} (h : dN xs = .error c) : dL f xs = .error c := by unfold dL; rw [h]
theorem Tl.ntype {w : World} {t g r : Nat} {ys : List Nat} (h : Tl w t g r ys) {e : TypeId} (h1 : e ≠ 226) (h2 : e ≠ 246) : ∀ j ∈ [t, g], ∀ cs, w.heap[j]? ≠ some (.cells cs e (0, 0)) := by
  intro j hj cs hc
  obtain ⟨ao, cap, hR⟩ := h.rd
  simp only [List.mem_cons, List.not_mem_nil, or_false] at hj
  rcases hj with rfl | rfl
  · rw [h.tb.box] at hc
    simp only [Option.some.injEq, Obj.cells.injEq] at hc
    exact h1 hc.2.1.symm
  · rw [hR.box] at hc
    simp only [Option.some.injEq, Obj.cells.injEq] at hc
    exact h2 hc.2.1.symm
theorem Tl.noOwn {w : World} {t g r : Nat} {ys : List Nat} (h : Tl w t g r ys) {base : Nat} {e : TypeId} {size : Nat} {v : Value} {n : Nat} {xs : List Value} (ho : w.ownsRow base e size v n xs) (h1 : e ≠ 226) (h2 : e ≠ 246) : ∀ k, v.ownBlock = some k -> k ∉ [t, g] := by
  intro k hk hm
  obtain ⟨_, cur, hc⟩ := zak ho hk
  exact h.ntype h1 h2 k hm cur hc
theorem Tl.noOwnR {w : World} {t g r : Nat} {ys : List Nat} (h : Tl w t g r ys) (w0 : World) (hr0 : r < w0.heap.size) {e : TypeId} {size : Nat} {v : Value} {n : Nat} {xs : List Value} (ho : w.ownsRow w0.heap.size e size v n xs) (h1 : e ≠ 226) (h2 : e ≠ 246) : t ∉ v.ownBlock.toList /\ g ∉ v.ownBlock.toList /\ r ∉ v.ownBlock.toList := by
  refine ⟨fun hh => ?_, fun hh => ?_, fun hh => ?_⟩
  · exact h.noOwn ho h1 h2 t (Option.mem_toList.1 hh) (by simp)
  · exact h.noOwn ho h1 h2 g (Option.mem_toList.1 hh) (by simp)
  · have := (zak ho (Option.mem_toList.1 hh)).1
    omega
theorem zfj (w0 w : World) {ops : Array Oper} {rest : List Oper} {o : Oper} {a : Act} {Q : Exit -> Act -> World -> Prop} (hgd : o.guard = none) (s x : Operand)
    (ho : o.op = .call { callee := .builtin .append, args := #[s, x], argTypes := #[132, 132] })
    (so : Option Addr) (N c : Nat) (vs : List Vn) (hsv : a.eval s = .slice so N c) (hK : w.ownsRow w0.heap.size 136 3 (.slice so N c) N (vnsC vs)) (hN : N < 3518437208) (h0 : w0.heap.size <= w.heap.size) (p : Vn) (hx : a.eval x = .slice (some ⟨w.heap.size, 0, none⟩) 1 1)
    (h : ∀ so' c' w', w'.ownsRow w0.heap.size 136 3 (.slice so' (N + 1) c') (N + 1) (vnsC (vs ++ [p])) -> Fr (Value.slice so N c).ownBlock.toList w w' -> wpList Tryz.prog ops Q rest (a.put o.dst (.slice so' (N + 1) c')) w') : wpList Tryz.prog ops Q (o :: rest) a (w.alloc (.cells #[.int .i64 p.num, .string p.val, .bool p.drop] 136)) := by
  obtain ⟨i0, hi, hz0, hz1, hz2⟩ := zhd
  have hmx : 3518437208884 <= maxLen := by unfold maxLen; omega
  refine wpList_append_own (w.alloc (.cells #[.int .i64 p.num, .string p.val, .bool p.drop] 136)) hgd s x 132 ho w0.heap.size 136 i0 _ 3 32 Tryz.undVns' hi hz0 hz1 hz2 rfl (by decide) (.slice so N c) N (vnsC vs) hsv (zas hK (Fr.alloc [] w _) (by simp)) ⟨w.heap.size, 0, none⟩ 1 1 (vnC p) hx rfl ?_ ?_ (by omega) (by omega) (by simp; omega) ?_
  · intro j u hu
    have hr := heap_alloc_new w (.cells #[.int .i64 p.num, .string p.val, .bool p.drop] 136)
    rw [Addr.add_lit, cell_of_row _ _ _ _ _ _ hr, Nat.zero_add]
    simpa [vnC] using hu
  · intro u hu
    simp only [vnC, List.mem_cons, List.not_mem_nil, or_false] at hu
    rcases hu with rfl | rfl | rfl <;> rfl
  · intro v' w' hown' hg' _
    obtain ⟨bo, cap', rfl⟩ : ∃ bo cap', v' = .slice bo (N + 1) cap' := by
      rcases hown'.2 with ⟨_, h1⟩ | ⟨g, cap, _, rfl, _⟩
      · omega
      · exact ⟨_, cap, rfl⟩
    have e1 : vnsC vs ++ vnC p = vnsC (vs ++ [p]) := by rw [zcs]; simp [vnsC]
    rw [e1] at hown'
    exact h bo cap' w' hown' (((Fr.alloc [] w _).mono (by simp)).then (Fr.grown (S := (Value.slice so N c).ownBlock.toList) hg' (fun y hy _ => Option.mem_toList.2 hy)))
structure LvI (w wr : World) (t g r : Nat) (so : Option Addr) (N c : Nat) (vs : List Vn) (ys : List Nat) : Prop where
  tl : Tl wr t g r ys
  len : N = vs.length
  row : wr.ownsRow w.heap.size 136 3 (.slice so N c) N (vnsC vs)
  fr : Fr [t, g] w wr
theorem LvI.app {w wr w2 w3 w4 : World} {t g r : Nat} {so so' : Option Addr} {N c c' : Nat} {vs : List Vn} {ys zs : List Nat} {p : Vn} (h : LvI w wr t g r so N c vs ys) (hr : r < w.heap.size) (hF2 : Fr [t, g] wr w2) (hT2 : Tl w2 t g r zs) (hF3 : Fr [] w2 w3) (hrow : w4.ownsRow w.heap.size 136 3 (.slice so' (N + 1) c') (N + 1) (vnsC (vs ++ [p]))) (hF4 : Fr (Value.slice so N c).ownBlock.toList w3 w4) :
    LvI w w4 t g r so' (N + 1) c' (vs ++ [p]) zs := by
  have hown2 : w2.ownsRow w.heap.size 136 3 (.slice so N c) N (vnsC vs) := zas h.row hF2 (h.tl.noOwn h.row (by decide) (by decide))
  have hown3 := zas hown2 hF3 (by simp)
  have hT3 := hT2.keep0 hF3
  obtain ⟨a1, a2, a3⟩ := hT3.noOwnR w hr hown3 (by decide) (by decide)
  exact ⟨hT3.keep hF4 a1 a2 a3, by rw [h.len]; simp, hrow, ((h.fr.then hF2).then (hF3.mono (by simp))).trans hF4 (fun _ x _ => x) (fun x hx hl => by have := (zak hown3 (Option.mem_toList.1 hx)).1; omega)⟩
theorem zrh (fv : Value) (t g c : Nat) (w : World) (h : Td w t g c) : Calls Tryz.prog 193 #[.pointer (some ⟨t, 0, none⟩), fv] w fun e w' => e = .returned (.slice none 0 0) /\ w = w' := by
  have HD : Hid (Calls _ _ _ _ _) := zfh t g c w h
  clear h
  go_enter Tryz.func193, Tryz.ntmps193
  go_wp2_with fail
  refine Calls.mono HD.out ?_
  rintro e w1 ⟨rfl, rfl⟩
  go_wp2_with fail
  go_loopw [5, 9] (fun ll ii wr => ll = .slice none 0 0 /\ ii = .int .i64 0 /\ w = wr) (fun _ ii _ => 0)
  case atStart => exact ⟨rfl, rfl, rfl⟩
  case round =>
    obtain ⟨rfl, rfl, rfl⟩ := hrel
    go_wp2
    go_ret
    exact ⟨rfl, rfl⟩
theorem zri (fv : Value) (t g c : Nat) (w : World) (h : Td w t g c) : Calls Tryz.prog 167 #[.pointer (some ⟨t, 0, none⟩), fv] w fun e w' => e = .returned (.slice none 0 0) /\ w = w' := by
  have HD : Hid (Calls _ _ _ _ _) := zfh t g c w h
  clear h
  go_enter Tryz.func167, Tryz.ntmps167
  go_wp2_with fail
  refine Calls.mono HD.out ?_
  rintro e w1 ⟨rfl, rfl⟩
  go_wp2_with fail
  go_loopw [5, 9] (fun ll ii wr => ll = .slice none 0 0 /\ ii = .int .i64 0 /\ w = wr) (fun _ ii _ => 0)
  case atStart => exact ⟨rfl, rfl, rfl⟩
  case round =>
    obtain ⟨rfl, rfl, rfl⟩ := hrel
    go_wp2
    go_ret
    exact ⟨rfl, rfl⟩
theorem zjv (fv : Value) (t g c : Nat) (w : World) (h : Td w t g c) : Calls Tryz.prog 168 #[.pointer (some ⟨t, 0, none⟩), fv] w fun e w' => e = .returned (.slice none 0 0) /\ w = w' := by
  have HD : Hid (Calls _ _ _ _ _) := zfh t g c w h
  clear h
  go_enter Tryz.func168, Tryz.ntmps168
  go_wp2_with fail
  refine Calls.mono HD.out ?_
  rintro e w1 ⟨rfl, rfl⟩
  go_wp2_with fail
  go_loopw [5, 9] (fun ll ii wr => ll = .slice none 0 0 /\ ii = .int .i64 0 /\ w = wr) (fun _ ii _ => 0)
  case atStart => exact ⟨rfl, rfl, rfl⟩
  case round =>
    obtain ⟨rfl, rfl, rfl⟩ := hrel
    go_wp2
    go_ret
    exact ⟨rfl, rfl⟩
def LvP (t g r : Nat) (xs : List Nat) (w : World) (e : Ending) (w' : World) : Prop :=
  (∃ c, dL dX xs = .error c /\ e = .returned (.slice none 0 0) /\ Td w' t g c /\ Fr [t, g] w w') \/ (∃ ro N rc vs ys, dL dX xs = .ok (vs, ys) /\ e = .returned (.slice ro N rc) /\ VOut w w' ro N rc vs /\ Tl w' t g r ys /\ Fr [t, g] w w')
theorem ztu (t g r bx : Nat) (xs : List Nat) (w : World) (h : Tl w t g r xs) (hbx : w.cell? ⟨bx, 0, none⟩ = some (.pointer (some ⟨t, 0, none⟩))) (hxt : bx ≠ t) (hxg : bx ≠ g) (hxl : bx < w.heap.size) :
    Calls Tryz.prog 193 #[.pointer (some ⟨t, 0, none⟩), .func (Fn.func 191) #[] #[.pointer (some ⟨bx, 0, none⟩)]] w fun e w' => LvP t g r xs w e w' := by
  have hrl : r < w.heap.size := by obtain ⟨ao, cap, hR⟩ := h.rd; exact hR.sl.blk
  have HX : Hid (∀ W, Fr [t, g] w W -> W.cell? ⟨bx, 0, none⟩ = some (.pointer (some ⟨t, 0, none⟩)) /\ bx < W.heap.size) := fun W hf => ⟨zbq hf hbx hxl (by simp; exact ⟨hxt, hxg⟩), Nat.lt_of_lt_of_le hxl hf.size⟩
  have HC : Hid (Calls _ _ _ _ _) := zcm t g r xs w h
  have HXt : Hid (bx ≠ t /\ bx ≠ g /\ r < w.heap.size) := ⟨hxt, hxg, hrl⟩
  clear h hbx hxt hxg hxl hrl
  go_enter Tryz.func193, Tryz.ntmps193
  go_wp2_with fail
  refine Calls.mono HC.out ?_
  rintro e w1 (⟨c, h1, rfl, hT1, hF1⟩ | ⟨n, zs, h1, rfl, hT1, hF1⟩)
  · have HR : Hid (LvP t g r xs w (.returned (.slice none 0 0)) w1) := Or.inl ⟨c, zic h1, rfl, hT1, hF1⟩
    clear h1 hT1 hF1 HC HX HXt
    go_wp2_with fail
    go_loopw [5, 9] (fun ll ii wr => ll = .slice none 0 0 /\ ii = .int .i64 0 /\ w1 = wr) (fun _ ii _ => 0)
    case atStart => exact ⟨rfl, rfl, rfl⟩
    case round =>
      obtain ⟨rfl, rfl, rfl⟩ := hrel
      go_wp2
      go_ret
      exact HR.out
  · have hn := znm h1
    have HD : Hid (dL dX xs = dR dX n zs) := zgp h1
    have HI0 : Hid (LvI w w1 t g r none 0 0 [] zs) := ⟨hT1, rfl, ⟨rfl, .inl ⟨rfl, rfl⟩⟩, hF1⟩
    clear h1 hT1 hF1 HC
    go_wp2_with fail
    go_loopw [5, 9] (fun ll ii wr => ∃ (so : Option Addr) (N c : Nat) (vs : List Vn) (ys : List Nat), ll = .slice so N c /\ ii = .int .i64 N /\ N <= n /\ Hid (dR dX n zs = gl vs (dR dX (n - N) ys)) /\ Hid (LvI w wr t g r so N c vs ys)) (fun _ ii _ => n - (RowKit.intOf ii).toNat)
    case atStart => exact ⟨none, 0, 0, [], zs, rfl, rfl, Nat.zero_le _, by show _ = _; rw [znj]; rfl, HI0⟩
    case round =>
      obtain ⟨so, N, c, vs, ys, rfl, rfl, hNn, HG, HI⟩ := hrel
      by_cases hi : N < n
      · obtain ⟨m, hm⟩ : ∃ m, n - N = m + 1 := ⟨n - N - 1, by omega⟩
        have hlt : (N : Int) < n := by omega
        obtain ⟨k1, k2⟩ := HX.out _ HI.out.fr
        have HV : Hid (Calls _ _ _ _ _) := zyc t g r bx ys wr HI.out.tl k1 HXt.out.1 HXt.out.2.1 k2
        have HM : Hid (n - N = m + 1) := hm
        clear k1 k2 hm
        go_wp2_with fail
        refine Calls.mono HV.out ?_
        rintro e w2 (⟨cc, nn, h2, rfl, hT2, hF2⟩ | ⟨v, us, h2, rfl, hT2, hF2⟩)
        · have HR : Hid (∀ w3, Fr [] w2 w3 -> LvP t g r xs w (.returned (.slice none 0 0)) w3) := fun w3 hf => Or.inl ⟨cc, by rw [HD.out, HG.out, HM.out, znk h2], rfl, hT2.keep0 hf, (HI.out.fr.then hF2).then (hf.mono (by simp))⟩
          have hcb : ((cc : Int) != 0) = true := by rw [bne_iff_ne]; have := hT2.bad; omega
          have d1 := (hT2.keep0 (Fr.alloc [] w2 (.cells #[.int .i64 nn, .string ⟨#[]⟩, .bool false] 136))).tb.c1
          clear h2 hT2 hF2 HV HI HG HX
          go_wp2
          go_ret
          exact HR.out _ (Fr.alloc [] _ _)
        · obtain ⟨num, val, drop⟩ := v
          have HG2 : Hid (dR dX n zs = gl (vs ++ [⟨num, val, drop⟩]) (dR dX (n - (N + 1)) us)) := by
            show _ = _
            rw [HG.out, HM.out, zrg h2]
            have := HM.out
            rw [show n - (N + 1) = m by omega]
          obtain ⟨w3, HW3⟩ : ∃ w3, Hid (w2.alloc (.cells #[.int .i64 num, .string val, .bool drop] 136) = w3) := ⟨_, rfl⟩
          have hF3 : Fr [] w2 w3 := by rw [<- HW3.out]; exact Fr.alloc [] w2 _
          have hb3 : w3.heap[w2.heap.size]? = some (.cells #[.int .i64 num, .string val, .bool drop] 136 (0, 0)) := by rw [<- HW3.out]; exact heap_alloc_new w2 _
          have x0 : w3.cell? ⟨w2.heap.size, 0, none⟩ = some (.int .i64 num) := by rw [cell_of_row _ _ _ _ _ _ hb3]; rfl
          have x1 : w3.cell? ⟨w2.heap.size, 1, none⟩ = some (.string val) := by rw [cell_of_row _ _ _ _ _ _ hb3]; rfl
          have x2 : w3.cell? ⟨w2.heap.size, 2, none⟩ = some (.bool drop) := by rw [cell_of_row _ _ _ _ _ _ hb3]; rfl
          have d1 := (hT2.keep0 hF3).tb.c1
          have HO3 : Hid (w3.ownsRow w.heap.size 136 3 (.slice so N c) N (vnsC vs)) := zas (zas HI.out.row hF2 (HI.out.tl.noOwn HI.out.row (by decide) (by decide))) hF3 (by simp)
          have hsz3 : w.heap.size <= w3.heap.size := Nat.le_trans HI.out.fr.size (Nat.le_trans hF2.size hF3.size)
          have HY : Hid (∀ so' c' w4, w4.ownsRow w.heap.size 136 3 (.slice so' (N + 1) c') (N + 1) (vnsC (vs ++ [⟨num, val, drop⟩])) -> Fr (Value.slice so N c).ownBlock.toList w3 w4 -> LvI w w4 t g r so' (N + 1) c' (vs ++ [⟨num, val, drop⟩]) us) := fun so' c' w4 e1 e2 => HI.out.app HXt.out.2.2 hF2 hT2 hF3 e1 e2
          have hN1 : N < 3518437208 := by omega
          clear h2 hT2 hF2 HV HG HM hb3 HI hF3
          go_upto_region 5 with fail
          rw [HW3.out]
          go_wp2_with (first
            | (at_builtin; refine zfj w w3 rfl _ _ rfl so N c vs rfl HO3.out hN1 hsz3 ⟨num, val, drop⟩ rfl ?_
               intro so' c' w4 e1 e2
               have HR2 : Hid (LvI w w4 t g r so' (N + 1) c' (vs ++ [⟨num, val, drop⟩]) us) := HY.out so' c' w4 e1 e2
               clear e1 e2
               go_frame)
            | fail)
          go_roundw
          case rel => exact ⟨so', N + 1, c', _, us, rfl, by simp, by omega, HG2, HR2⟩
          case measure => simp [RowKit.intOf]; omega
      · have hN2 : n - N = 0 := by omega
        have HR : Hid (LvP t g r xs w (.returned (.slice so N c)) wr) := Or.inr ⟨so, N, c, vs, ys, by rw [HD.out, HG.out, hN2, znl], rfl, VOut.of HI.out.row HI.out.len, HI.out.tl, HI.out.fr⟩
        have hlt : ¬ (N : Int) < n := by omega
        clear hN2 HI HG HX
        go_wp2
        go_ret
        exact HR.out
theorem zid {xs ys : List Nat} {n : Nat} (h : dN xs = .ok (n, ys)) : dI xs = .ok ((n : Int), ys) := by unfold dI; rw [h]
theorem zrj {xs : List Nat} {c : Nat} (h : dN xs = .error c) : dI xs = .error c := by unfold dI; rw [h]
structure LiI (w wr : World) (t g r : Nat) (so : Option Addr) (N c : Nat) (vs : List Int) (ys : List Nat) : Prop where
  tl : Tl wr t g r ys
  ow : IOw w.heap.size wr so N c vs
  fr : Fr [t, g] w wr
theorem LiI.app {w wr w2 w3 w4 : World} {t g r : Nat} {so so' : Option Addr} {N c c' : Nat} {vs : List Int} {ys zs : List Nat} {p : Int} (h : LiI w wr t g r so N c vs ys) (hr : r < w.heap.size) (hF2 : Fr [t, g] wr w2) (hT2 : Tl w2 t g r zs) (hF3 : Fr [] w2 w3) (hrow : IOw w.heap.size w4 so' (N + 1) c' (vs ++ [p])) (hF4 : Fr (Value.slice so N c).ownBlock.toList w3 w4) :
    LiI w w4 t g r so' (N + 1) c' (vs ++ [p]) zs := by
  have hown2 := zas h.ow.row hF2 (h.tl.noOwn h.ow.row (by decide) (by decide))
  have hown3 := zas hown2 hF3 (by simp)
  have hT3 := hT2.keep0 hF3
  obtain ⟨a1, a2, a3⟩ := hT3.noOwnR w hr hown3 (by decide) (by decide)
  exact ⟨hT3.keep hF4 a1 a2 a3, hrow, ((h.fr.then hF2).then (hF3.mono (by simp))).trans hF4 (fun _ x _ => x) (fun x hx hl => by have := (zak hown3 (Option.mem_toList.1 hx)).1; omega)⟩
def LiP (t g r : Nat) (xs : List Nat) (w : World) (e : Ending) (w' : World) : Prop :=
  (∃ c, dL dI xs = .error c /\ e = .returned (.slice none 0 0) /\ Td w' t g c /\ Fr [t, g] w w') \/ (∃ ro N rc vs ys, dL dI xs = .ok (vs, ys) /\ e = .returned (.slice ro N rc) /\ IOw w.heap.size w' ro N rc vs /\ Tl w' t g r ys /\ Fr [t, g] w w')
theorem ztv (t g r : Nat) (xs : List Nat) (w : World) (h : Tl w t g r xs) :
    Calls Tryz.prog 167 #[.pointer (some ⟨t, 0, none⟩), .func (Fn.func 166) #[.pointer (some ⟨t, 0, none⟩)] #[]] w fun e w' => LiP t g r xs w e w' := by
  have hrl : r < w.heap.size := by obtain ⟨ao, cap, hR⟩ := h.rd; exact hR.sl.blk
  have HC : Hid (Calls _ _ _ _ _) := zcm t g r xs w h
  have HRl : Hid (r < w.heap.size) := hrl
  clear h hrl
  go_enter Tryz.func167, Tryz.ntmps167
  go_wp2_with fail
  refine Calls.mono HC.out ?_
  rintro e w1 (⟨c, h1, rfl, hT1, hF1⟩ | ⟨n, zs, h1, rfl, hT1, hF1⟩)
  · have HR : Hid (LiP t g r xs w (.returned (.slice none 0 0)) w1) := Or.inl ⟨c, zic h1, rfl, hT1, hF1⟩
    clear h1 hT1 hF1 HC HRl
    go_wp2_with fail
    go_loopw [5, 9] (fun ll ii wr => ll = .slice none 0 0 /\ ii = .int .i64 0 /\ w1 = wr) (fun _ ii _ => 0)
    case atStart => exact ⟨rfl, rfl, rfl⟩
    case round =>
      obtain ⟨rfl, rfl, rfl⟩ := hrel
      go_wp2
      go_ret
      exact HR.out
  · have hn := znm h1
    have HD : Hid (dL dI xs = dR dI n zs) := zgp h1
    have HI0 : Hid (LiI w w1 t g r none 0 0 [] zs) := ⟨hT1, IOw.nil _ _, hF1⟩
    clear h1 hT1 hF1 HC
    go_wp2_with fail
    go_loopw [5, 9] (fun ll ii wr => ∃ (so : Option Addr) (N c : Nat) (vs : List Int) (ys : List Nat), ll = .slice so N c /\ ii = .int .i64 N /\ N <= n /\ Hid (dR dI n zs = gl vs (dR dI (n - N) ys)) /\ Hid (LiI w wr t g r so N c vs ys)) (fun _ ii _ => n - (RowKit.intOf ii).toNat)
    case atStart => exact ⟨none, 0, 0, [], zs, rfl, rfl, Nat.zero_le _, by show _ = _; rw [znj]; rfl, HI0⟩
    case round =>
      obtain ⟨so, N, c, vs, ys, rfl, rfl, hNn, HG, HI⟩ := hrel
      by_cases hi : N < n
      · obtain ⟨m, hm⟩ : ∃ m, n - N = m + 1 := ⟨n - N - 1, by omega⟩
        have hlt : (N : Int) < n := by omega
        have HV : Hid (Calls _ _ _ _ _) := zcm t g r ys wr HI.out.tl
        have HM : Hid (n - N = m + 1) := hm
        clear hm
        go_wp2_with fail
        refine Calls.mono HV.out ?_
        rintro e w2 (⟨cc, h2, rfl, hT2, hF2⟩ | ⟨v, us, h2, rfl, hT2, hF2⟩)
        · have HR : Hid (LiP t g r xs w (.returned (.slice none 0 0)) w2) := Or.inl ⟨cc, by rw [HD.out, HG.out, HM.out, znk (zrj h2)], rfl, hT2, HI.out.fr.then hF2⟩
          have hcb : ((cc : Int) != 0) = true := by rw [bne_iff_ne]; have := hT2.bad; omega
          have d1 := hT2.tb.c1
          clear h2 hT2 hF2 HV HI HG
          go_wp2
          go_ret
          exact HR.out
        · have HG2 : Hid (dR dI n zs = gl (vs ++ [(v : Int)]) (dR dI (n - (N + 1)) us)) := by
            show _ = _
            rw [HG.out, HM.out, zrg (zid h2)]
            have := HM.out
            rw [show n - (N + 1) = m by omega]
          have d1 := hT2.tb.c1
          obtain ⟨w3, HW3⟩ : ∃ w3, Hid (w2.alloc (.cells #[.int .i64 (v : Int)] 3) = w3) := ⟨_, rfl⟩
          have hF3 : Fr [] w2 w3 := by rw [<- HW3.out]; exact Fr.alloc [] w2 _
          have hx3 : w3.cell? ⟨w2.heap.size, 0, none⟩ = some (.int .i64 (v : Int)) := by rw [<- HW3.out]; exact zlo w2 _ _
          have HO3 : Hid (IOw w.heap.size w3 so N c vs) := ⟨HI.out.ow.len, zas (zas HI.out.ow.row hF2 (HI.out.tl.noOwn HI.out.ow.row (by decide) (by decide))) hF3 (by simp)⟩
          have hsz3 : w.heap.size <= w3.heap.size := Nat.le_trans HI.out.fr.size (Nat.le_trans hF2.size hF3.size)
          have HY : Hid (∀ so' c' w4, IOw w.heap.size w4 so' (N + 1) c' (vs ++ [(v : Int)]) -> Fr (Value.slice so N c).ownBlock.toList w3 w4 -> LiI w w4 t g r so' (N + 1) c' (vs ++ [(v : Int)]) us) := fun so' c' w4 e1 e2 => HI.out.app HRl.out hF2 hT2 hF3 e1 e2
          have hN1 : N < 1099511627776 := by omega
          have HX3 : Hid (w3.cell? ⟨w2.heap.size, 0, none⟩ = some (.int .i64 (v : Int))) := hx3
          clear h2 hT2 hF2 HV HG HM hx3 HI hF3
          go_wp2_with (first
            | (at_builtin; rw [HW3.out]; refine zoy w.heap.size w3 rfl _ _ rfl so N c vs rfl HO3.out ⟨w2.heap.size, 0, none⟩ 1 (v : Int) rfl HX3.out hN1 hsz3 ?_
               intro so' c' w4 e1 e2 _
               have HR2 : Hid (LiI w w4 t g r so' (N + 1) c' (vs ++ [(v : Int)]) us) := HY.out so' c' w4 e1 e2
               clear e1 e2
               go_frame)
            | fail)
          go_roundw
          case rel => exact ⟨so', N + 1, c', _, us, rfl, by simp, by omega, HG2, HR2⟩
          case measure => simp [RowKit.intOf]; omega
      · have hN2 : n - N = 0 := by omega
        have HR : Hid (LiP t g r xs w (.returned (.slice so N c)) wr) := Or.inr ⟨so, N, c, vs, ys, by rw [HD.out, HG.out, hN2, znl], rfl, HI.out.ow, HI.out.tl, HI.out.fr⟩
        have hlt : ¬ (N : Int) < n := by omega
        clear hN2 HI HG
        go_wp2
        go_ret
        exact HR.out
theorem dK_t {xs : List Nat} {c : Nat} (h : dT 64 xs = .error c) : dK xs = .error c := by unfold dK; rw [h]
theorem dK_l {xs ys : List Nat} {k : ByteArray} {c : Nat} (h : dT 64 xs = .ok (k, ys)) (h2 : dL dX ys = .error c) : dK xs = .error c := by unfold dK; rw [h]; simp only; rw [h2]
theorem zxm {xs ys zs : List Nat} {k : ByteArray} {vs : List Vn} (h : dT 64 xs = .ok (k, ys)) (h2 : dL dX ys = .ok (vs, zs)) : dK xs = .ok ((k, vs), zs) := by unfold dK; rw [h]; simp only; rw [h2]
def HeP (t g r : Nat) (xs : List Nat) (w : World) (e : Ending) (w' : World) : Prop :=
  (∃ c s, dK xs = .error c /\ e = .returned (.agg #[.string s, .slice none 0 0]) /\ Td w' t g c /\ Fr [t, g] w w') \/ (∃ k ro N rc vs ys, dK xs = .ok ((k, vs), ys) /\ e = .returned (.agg #[.string k, .slice ro N rc]) /\ VOut w w' ro N rc vs /\ Tl w' t g r ys /\ Fr [t, g] w w')
theorem zye {w : World} {b : Nat} {u v x y : Value} {t : TypeId} (h : w.heap[b]? = some (.cells #[u, v] t (0, 0))) : ((w.setCell ⟨b, 0, none⟩ x).setCell ⟨b, 1, none⟩ y).heap[b]? = some (.cells #[x, y] t (0, 0)) := by
  refine zel (u := x) (v := v) ?_
  obtain ⟨hlt, hk⟩ := Array.getElem?_eq_some_iff.1 h
  show (w.heap.modify b _)[b]? = _
  rw [Array.getElem?_eq_getElem (by rw [Array.size_modify]; exact hlt), Array.getElem_modify_self, hk]
  rfl
theorem zwc {w w0 W : World} {t g b0 : Nat} (h0 : Fr [] w w0) (hb0 : w0.heap[b0]? = some (.cells #[.string ⟨#[]⟩, .slice none 0 0] 147 (0, 0))) (hn : w.heap.size <= b0) (hbt : b0 ≠ t) (hbg : b0 ≠ g) (hW : Fr [t, g] w0 W) (a : ByteArray) (b : Value) (W3 : World) (e : (W.setCell ⟨b0, 0, none⟩ (.string a)).setCell ⟨b0, 1, none⟩ b = W3) :
    W3.cell? ⟨b0, 0, none⟩ = some (.string a) /\ W3.cell? ⟨b0, 1, none⟩ = some b /\ Fr [b0] W W3 /\ Fr [t, g] w W3 := by
  have hr := zye (x := .string a) (y := b) (hW.keep hb0 (by simp; exact ⟨hbt, hbg⟩))
  rw [e] at hr
  have hFs : Fr [b0] W W3 := by rw [<- e]; exact (Fr.set _ _ _ (by simp)).then (Fr.set _ _ _ (by simp))
  refine ⟨?_, ?_, hFs, (((h0.mono (T := [t, g]) (by simp)).then hW).trans hFs (fun _ x _ => x) (fun x hx hl => by simp at hx; omega))⟩
  · rw [cell_of_row _ _ _ _ _ _ hr]; rfl
  · rw [cell_of_row _ _ _ _ _ _ hr]; rfl
theorem zrk {w0 W : World} {t g b0 : Nat} (hb0 : w0.heap[b0]? = some (.cells #[.string ⟨#[]⟩, .slice none 0 0] 147 (0, 0))) (hbt : b0 ≠ t) (hbg : b0 ≠ g) (hW : Fr [t, g] w0 W) :
    W.cell? ⟨b0, 0, none⟩ = some (.string ⟨#[]⟩) /\ W.cell? ⟨b0, 1, none⟩ = some (.slice none 0 0) /\ W.frozen? ⟨b0, 0, none⟩ = false /\ W.frozen? ⟨b0, 1, none⟩ = false := by
  have hb2 := hW.keep hb0 (by simp; exact ⟨hbt, hbg⟩)
  exact ⟨by rw [cell_of_row _ _ _ _ _ _ hb2]; rfl, by rw [cell_of_row _ _ _ _ _ _ hb2]; rfl, zfs hb2 0, zfs hb2 1⟩
theorem VOut.offBox {w w1 w' : World} {ro : Option Addr} {N rc b : Nat} {vs : List Vn} (h : VOut w w1 ro N rc vs) (hf : Fr [b] w1 w') (hb : b < w.heap.size) : VOut w w' ro N rc vs := h.keepS hf (fun j hj hm => by have := (h.blk j hj).1; simp at hm; omega)
theorem zwd (t g r : Nat) (xs : List Nat) (w : World) (h : Tl w t g r xs) :
    Calls Tryz.prog 169 #[.pointer (some ⟨t, 0, none⟩)] w fun e w' => HeP t g r xs w e w' := by
  have htl := h.tb.lt
  obtain ⟨hgl, hrl⟩ : g < w.heap.size /\ r < w.heap.size := by obtain ⟨ao, cap, hR⟩ := h.rd; exact ⟨hR.lt, hR.sl.blk⟩
  obtain ⟨w0, HW0⟩ : ∃ w0, Hid ((w.alloc (.cells #[.pointer (some ⟨t, 0, none⟩)] 222)).alloc (.cells #[.string ⟨#[]⟩, .slice none 0 0] 147) = w0) := ⟨_, rfl⟩
  have hF0 : Fr [] w w0 := by rw [<- HW0.out]; exact (Fr.alloc [] w _).then (Fr.alloc [] _ _)
  have e1 : (w.alloc (.cells #[.pointer (some ⟨t, 0, none⟩)] 222)).heap.size = w.heap.size + 1 := by simp
  have hbx : w0.cell? ⟨w.heap.size, 0, none⟩ = some (.pointer (some ⟨t, 0, none⟩)) := by
    rw [<- HW0.out]
    exact zbq (Fr.alloc [] _ _) (cell_of_row _ _ _ _ _ _ (heap_alloc_new w _)) (by simp) (by simp)
  have hb0 : w0.heap[w.heap.size + 1]? = some (.cells #[.string ⟨#[]⟩, .slice none 0 0] 147 (0, 0)) := by rw [<- HW0.out, <- e1]; exact heap_alloc_new _ _
  have hs0 : w0.heap.size = w.heap.size + 2 := by rw [<- HW0.out]; simp
  have hT0 := h.keep0 hF0
  have HX : Hid (∀ W, Fr [t, g] w0 W -> W.cell? ⟨w.heap.size, 0, none⟩ = some (.pointer (some ⟨t, 0, none⟩)) /\ w.heap.size < W.heap.size /\ w.heap.size + 1 < W.heap.size) := fun W hf => ⟨zbq hf hbx (by omega) (by simp; omega), by have := hf.size; omega, by have := hf.size; omega⟩
  have HZ : Hid (∀ W, Fr [t, g] w0 W -> W.cell? ⟨w.heap.size + 1, 0, none⟩ = some (.string ⟨#[]⟩) /\ W.cell? ⟨w.heap.size + 1, 1, none⟩ = some (.slice none 0 0) /\ W.frozen? ⟨w.heap.size + 1, 0, none⟩ = false /\ W.frozen? ⟨w.heap.size + 1, 1, none⟩ = false) := fun W hf => zrk hb0 (by omega) (by omega) hf
  have HS : Hid (∀ W, Fr [t, g] w0 W -> ∀ (a : ByteArray) (b : Value) (W3 : World), (W.setCell ⟨w.heap.size + 1, 0, none⟩ (.string a)).setCell ⟨w.heap.size + 1, 1, none⟩ b = W3 ->
      W3.cell? ⟨w.heap.size + 1, 0, none⟩ = some (.string a) /\ W3.cell? ⟨w.heap.size + 1, 1, none⟩ = some b /\ Fr [w.heap.size + 1] W W3 /\ Fr [t, g] w W3) := fun W hW a b W3 e => zwc hF0 hb0 (Nat.le_succ _) (by omega) (by omega) hW a b W3 e
  have HN : Hid (w.heap.size + 1 ≠ t /\ w.heap.size + 1 ≠ g /\ w.heap.size + 1 ≠ r /\ w.heap.size ≠ t /\ w.heap.size ≠ g /\ w.heap.size <= w0.heap.size) := ⟨by omega, by omega, by omega, by omega, by omega, by omega⟩
  have HC : Hid (Calls _ _ _ _ _) := zln t g r 64 xs w0 hT0 (by decide)
  have cx := (HX.out w0 (Fr.refl _ _)).1
  clear h hT0 hb0 htl hgl hrl hbx hF0 hs0 e1
  go_enter Tryz.func169, Tryz.ntmps169
  go_upto_region 1 with fail
  rw [HW0.out]
  go_wp2_with fail
  refine Calls.mono HC.out ?_
  rintro e w1 (⟨c, h1, rfl, hT1, hF1⟩ | ⟨k, ys, h1, rfl, hT1, hF1⟩)
  · have H1 : Hid (dK xs = .error c) := dK_t h1
    have cx := (HX.out _ hF1).1
    have HF1 : Hid (Fr [t, g] w0 w1) := hF1
    have HT1 : Hid (Td w1 t g c) := hT1
    have HC2 : Hid (Calls _ _ _ _ _) := zrh (.func (Fn.func 191) #[] #[.pointer (some ⟨w.heap.size, 0, none⟩)]) t g c w1 hT1
    clear hT1 hF1 h1 HC
    go_wp2_with fail
    refine Calls.mono HC2.out ?_
    rintro e w2 ⟨rfl, rfl⟩
    obtain ⟨z0, z1, y0, y1⟩ := HZ.out _ HF1.out
    clear HX HC2
    go_wp2
    have hS := HS.out _ HF1.out ⟨#[]⟩ (.slice none 0 0)
    obtain ⟨W3, HW3⟩ : ∃ W3, Hid ((w1.setCell ⟨w.heap.size + 1, 0, none⟩ (.string ⟨#[]⟩)).setCell ⟨w.heap.size + 1, 1, none⟩ (.slice none 0 0) = W3) := ⟨_, rfl⟩
    obtain ⟨q0, q1, hfs, hfin⟩ := hS _ HW3.out
    rw [HW3.out]
    have HRR : Hid (Fr [w.heap.size + 1] w1 W3 /\ Fr [t, g] w W3) := ⟨hfs, hfin⟩
    clear hS HS HZ hfs hfin z0 z1
    refine bodyPost_ret (v := .agg #[.string ⟨#[]⟩, .slice none 0 0]) (by rw [zbh rfl]; go_simp) rfl ?_
    exact Or.inl ⟨c, _, H1.out, rfl, HT1.out.off HRR.out.1 HN.out.1, HRR.out.2⟩
  · have H1 : Hid (dT 64 xs = .ok (k, ys)) := h1
    obtain ⟨cx, cl, _⟩ := HX.out _ hF1
    have HF1 : Hid (Fr [t, g] w0 w1) := hF1
    have HC2 : Hid (Calls _ _ _ _ _) := ztu t g r w.heap.size ys w1 hT1 cx HN.out.2.2.2.1 HN.out.2.2.2.2.1 cl
    clear hT1 hF1 h1 HC cl
    go_wp2_with fail
    refine Calls.mono HC2.out ?_
    rintro e w2 (⟨c, h2, rfl, hT2, hF2⟩ | ⟨ro, N, rc, vs, us, h2, rfl, hV2, hT2, hF2⟩)
    · have H2 : Hid (dK xs = .error c) := dK_l H1.out h2
      have HT : Hid (Td w2 t g c) := hT2
      have HF2 : Hid (Fr [t, g] w0 w2) := HF1.out.then hF2
      obtain ⟨z0, z1, y0, y1⟩ := HZ.out _ HF2.out
      clear HX HC2 hT2 hF2 HF1 h2 H1
      go_wp2
      have hS := HS.out _ HF2.out k (.slice none 0 0)
      obtain ⟨W3, HW3⟩ : ∃ W3, Hid ((w2.setCell ⟨w.heap.size + 1, 0, none⟩ (.string k)).setCell ⟨w.heap.size + 1, 1, none⟩ (.slice none 0 0) = W3) := ⟨_, rfl⟩
      obtain ⟨q0, q1, hfs, hfin⟩ := hS _ HW3.out
      rw [HW3.out]
      have HRR : Hid (Fr [w.heap.size + 1] w2 W3 /\ Fr [t, g] w W3) := ⟨hfs, hfin⟩
      clear hS HS HZ hfs hfin z0 z1
      refine bodyPost_ret (v := .agg #[.string k, .slice none 0 0]) (by rw [zbh rfl]; go_simp) rfl ?_
      exact Or.inl ⟨c, _, H2.out, rfl, HT.out.off HRR.out.1 HN.out.1, HRR.out.2⟩
    · have H2 : Hid (dK xs = .ok ((k, vs), us)) := zxm H1.out h2
      have HT : Hid (Tl w2 t g r us) := hT2
      have HV : Hid (VOut w1 w2 ro N rc vs) := hV2
      have HL : Hid (w.heap.size <= w1.heap.size /\ w.heap.size + 1 < w1.heap.size) := ⟨Nat.le_trans HN.out.2.2.2.2.2 HF1.out.size, (HX.out _ HF1.out).2.2⟩
      have HF2 : Hid (Fr [t, g] w0 w2) := HF1.out.then hF2
      obtain ⟨z0, z1, y0, y1⟩ := HZ.out _ HF2.out
      clear HX HC2 hT2 hF2 HF1 h2 H1 hV2
      go_wp2
      have hS := HS.out _ HF2.out k (.slice ro N rc)
      obtain ⟨W3, HW3⟩ : ∃ W3, Hid ((w2.setCell ⟨w.heap.size + 1, 0, none⟩ (.string k)).setCell ⟨w.heap.size + 1, 1, none⟩ (.slice ro N rc) = W3) := ⟨_, rfl⟩
      obtain ⟨q0, q1, hfs, hfin⟩ := hS _ HW3.out
      rw [HW3.out]
      have HRR : Hid (Fr [w.heap.size + 1] w2 W3 /\ Fr [t, g] w W3) := ⟨hfs, hfin⟩
      clear hS HS HZ hfs hfin z0 z1
      refine bodyPost_ret (v := .agg #[.string k, .slice ro N rc]) (by rw [zbh rfl]; go_simp) rfl ?_
      exact Or.inr ⟨k, ro, N, rc, vs, us, H2.out, rfl, ((HV.out.offBox HRR.out.1 HL.out.2).later HL.out.1), HT.out.off HRR.out.1 HN.out.1 HN.out.2.1 HN.out.2.2.1, HRR.out.2⟩
end Go.Proofs.YtembflnhhfliaaaGreatDoor
