/- Texts of this claim laid together, one behind the other: contracts and plain lemmas; conditions as each names them. -/
import Derived.Test.YtpdkdgmaofhlkaaGreatDoorGp29
import Derived.Maps.AppendAt
/- One element more behind a row of one's own, whatever its type: as a step of a region, as an operation. Conditions as each names them. -/
namespace Go.Proofs.YtpdkdgmaofhlkaaGreatDoor
open Go.ChangeShapes Go.WideShapes Go.ChangeAt Go.RowKit Go.Lib
set_option linter.unusedVariables false
set_option linter.unusedSimpArgs false
theorem run_own (w : World) (t ty e : TypeId) (i : TypeInfo) (z : Value) (size bytes : Nat) (ht : Tryz.prog.underlying t = some (.slice e)) (hi : Tryz.prog.info? e = some i) (hz : i.zero = some z)
    (hsize : i.size = size) (hby : i.bytes = bytes) (hzs : z.cells.size = size) (hsz : 0 < size) (so : Option Addr) (N c : Nat) (xs : List Value) (hK : w.ownsRow 0 e size (.slice so N c) N xs)
    (ad : Addr) (cc : Nat) (news : List Value) (hl : news.length = size) (hy : ∀ j u, news[j]? = some u → w.cell? (ad.add j) = some u) (h1 : ∀ u ∈ news, u.oneCell' = true) (hN : N < 100000000) (hb : bytes ≤ 200) :
    ∃ so' c' w', (Builtin.append_ #[t, t] ty #[.slice so N c, .slice (some ad) 1 cc]).run Tryz.prog w = .ok (.slice so' (N + 1) c') w' ∧ w'.ownsRow 0 e size (.slice so' (N + 1) c') (N + 1) (xs ++ news) ∧ ((Value.slice so' (N + 1) c').ownBlock = (Value.slice so N c).ownBlock ∨ (Value.slice so' (N + 1) c').ownBlock = some w.heap.size) ∧ Fr (Value.slice so N c).ownBlock.toList w w' := by
  have hmx : 200000000 ≤ maxLen := by unfold maxLen; omega
  have hbb : (N + 1) * bytes ≤ 140737488355328 := by
    have h1 : (N + 1) * bytes ≤ 100000000 * 200 := Nat.mul_le_mul (by omega) hb
    omega
  obtain ⟨v', w', hr, h2, h3, h4, h5⟩ := run_append_own_at (P := Tryz.prog) w 0 t ty e i z size bytes ht hi hz hsize hby hzs hsz (.slice so N c) N xs hK ad 1 cc news (by omega) hy h1 (by omega) hbb (Nat.zero_le _)
  obtain ⟨o', c', rfl⟩ : ∃ o' c', v' = .slice o' (N + 1) c' := by
    rcases h2.2 with ⟨_, h1⟩ | ⟨g, cap, _, rfl, _⟩
    · omega
    · exact ⟨_, cap, rfl⟩
  exact ⟨o', c', w', hr, h2, h5, Fr.grown h3 (fun y hy _ => Option.mem_toList.2 hy)⟩
theorem step_own (w : World) {ops : Array Oper} {op : Oper} {a : Act} {K : Act → World → Prop} {Q : Exit → Act → World → Prop} {E : Prop} (hg : op.guard = none) (s x : Operand) (t e : TypeId)
    (ho : op.op = .call { callee := .builtin .append, args := #[s, x], argTypes := #[t, t] }) (i : TypeInfo) (z : Value) (size bytes : Nat) (ht : Tryz.prog.underlying t = some (.slice e)) (hi : Tryz.prog.info? e = some i) (hz : i.zero = some z)
    (hsize : i.size = size) (hby : i.bytes = bytes) (hzs : z.cells.size = size) (hsz : 0 < size) (so : Option Addr) (N c : Nat) (xs : List Value) (hsv : a.eval s = .slice so N c) (hK : w.ownsRow 0 e size (.slice so N c) N xs)
    (ad : Addr) (cc : Nat) (news : List Value) (hl : news.length = size) (hx : a.eval x = .slice (some ad) 1 cc) (hy : ∀ j u, news[j]? = some u → w.cell? (ad.add j) = some u) (h1 : ∀ u ∈ news, u.oneCell' = true) (hN : N < 100000000) (hb : bytes ≤ 200)
    (h : ∀ so' c' w', w'.ownsRow 0 e size (.slice so' (N + 1) c') (N + 1) (xs ++ news) → ((Value.slice so' (N + 1) c').ownBlock = (Value.slice so N c).ownBlock ∨ (Value.slice so' (N + 1) c').ownBlock = some w.heap.size) → Fr (Value.slice so N c).ownBlock.toList w w' → K (a.put op.dst (.slice so' (N + 1) c')) w') :
    if Region.wanted op (yielded ops a.tmps) = true then Oper.wp Tryz.prog op a w K Q else E := by
  have hw : Region.wanted op (yielded ops a.tmps) = true := by simp [Region.wanted, hg]
  rw [if_pos hw]
  obtain ⟨so', c', w', hr, h2, h3, h4⟩ := run_own w t op.type e i z size bytes ht hi hz hsize hby hzs hsz so N c xs hK ad cc news hl hy h1 hN hb
  unfold Oper.wp execOp
  simp only [ho, resolve, invoke, builtin, Sem.run_bind, Sem.run_pure, Result.andThen_ok, List.map_toArray, List.map_cons, List.map_nil, hsv, hx, hr]
  exact h so' c' w' h2 h3 h4
theorem wpList_own (w : World) {ops : Array Oper} {rest : List Oper} {o : Oper} {a : Act} {Q : Exit → Act → World → Prop} (hgd : o.guard = none) (s x : Operand) (t e : TypeId)
    (ho : o.op = .call { callee := .builtin .append, args := #[s, x], argTypes := #[t, t] }) (i : TypeInfo) (z : Value) (size bytes : Nat) (ht : Tryz.prog.underlying t = some (.slice e)) (hi : Tryz.prog.info? e = some i) (hz : i.zero = some z)
    (hsize : i.size = size) (hby : i.bytes = bytes) (hzs : z.cells.size = size) (hsz : 0 < size) (so : Option Addr) (N c : Nat) (xs : List Value) (hsv : a.eval s = .slice so N c) (hK : w.ownsRow 0 e size (.slice so N c) N xs)
    (ad : Addr) (cc : Nat) (news : List Value) (hl : news.length = size) (hx : a.eval x = .slice (some ad) 1 cc) (hy : ∀ j u, news[j]? = some u → w.cell? (ad.add j) = some u) (h1 : ∀ u ∈ news, u.oneCell' = true) (hN : N < 100000000) (hb : bytes ≤ 200)
    (h : ∀ so' c' w', w'.ownsRow 0 e size (.slice so' (N + 1) c') (N + 1) (xs ++ news) → ((Value.slice so' (N + 1) c').ownBlock = (Value.slice so N c).ownBlock ∨ (Value.slice so' (N + 1) c').ownBlock = some w.heap.size) → Fr (Value.slice so N c).ownBlock.toList w w' → wpList Tryz.prog ops Q rest (a.put o.dst (.slice so' (N + 1) c')) w') : wpList Tryz.prog ops Q (o :: rest) a w := by
  refine wpList_plain hgd fun K hK' => ?_
  obtain ⟨so', c', w', hr, h2, h3, h4⟩ := run_own w t o.type e i z size bytes ht hi hz hsize hby hzs hsz so N c xs hK ad cc news hl hy h1 hN hb
  unfold Oper.wp execOp
  simp only [ho, resolve, invoke, builtin, Sem.run_bind, Sem.run_pure, Result.andThen_ok, List.map_toArray, List.map_cons, List.map_nil, hsv, hx, hr]
  exact hK' _ _ (h so' c' w' h2 h3 h4)
theorem info_of {t : TypeId} {z : Value} {s b : Nat} (h : (Tryz.prog.info? t).map (fun i => (i.zero, i.size, i.bytes)) = some (some z, s, b)) : ∃ i, Tryz.prog.info? t = some i ∧ i.zero = some z ∧ i.size = s ∧ i.bytes = b := by
  cases hi : Tryz.prog.info? t with
  | none => rw [hi] at h; cases h
  | some i =>
    rw [hi] at h
    simp only [Option.map_some, Option.some.injEq, Prod.mk.injEq] at h
    exact ⟨i, rfl, h.1, h.2.1, h.2.2⟩
end Go.Proofs.YtpdkdgmaofhlkaaGreatDoor
/- What a reply adds to what is found: entries. Conditions as each names them. -/
namespace Go.Proofs.YtpdkdgmaofhlkaaGreatDoor
open Go.ChangeShapes Go.WideShapes Go.ChangeAt Go.RowKit Go.Lib
set_option linter.unusedVariables false
set_option linter.unusedSimpArgs false
theorem Tryz.undRowsE : Tryz.prog.underlying 77 = some (.slice 50) := by kernel_rfl
theorem Tryz.infoRowsE : (Tryz.prog.info? 50).map (fun i => (i.zero, i.size, i.bytes)) = some (some (.slice none 0 0), 1, 24) := by kernel_rfl
/-- What adding leaves. -/
structure AdqE (W w' : World) (t : Nat) (T : Tk) (so : Option Addr) (N c : Nat) (vs : List Value) (L : Nat) (Pk : World → World → Option Addr → Nat → Prop) : Prop where
  ex : ∃ (so' : Option Addr) (c' : Nat) (ro : Option Addr) (rc : Nat) (V w1 : World), TkM w' t { T with ev := .slice so' (N + 1) c' } ∧ w'.ownsRow 0 50 1 (.slice so' (N + 1) c') (N + 1) (vs ++ [.slice ro L rc]) ∧ Pk V w1 ro rc ∧ Fr [] W V ∧ Fr [] V w1 ∧ Fr (t :: (Value.slice so N c).ownBlock.toList) w1 w' ∧ (∀ k, (Value.slice so' (N + 1) c').ownBlock = some k → (Value.slice so N c).ownBlock = some k ∨ W.heap.size ≤ k)
/-- Ahead of the append. -/
structure A3E (W V w1 : World) (t : Nat) (T : Tk) (so : Option Addr) (N c : Nat) (vs : List Value) (L : Nat) (Pk : World → World → Option Addr → Nat → Prop) (ro : Option Addr) (rc : Nat) : Prop where
  row : (w1.alloc (.cells #[.slice ro L rc] 50)).ownsRow 0 50 1 (.slice so N c) N vs
  nw : ∀ j u, [Value.slice ro L rc][j]? = some u → (w1.alloc (.cells #[.slice ro L rc] 50)).cell? ((⟨w1.heap.size, 0, none⟩ : Addr).add j) = some u
  fin : ∀ so' c' w2, w2.ownsRow 0 50 1 (.slice so' (N + 1) c') (N + 1) (vs ++ [.slice ro L rc]) → ((Value.slice so' (N + 1) c').ownBlock = (Value.slice so N c).ownBlock ∨ (Value.slice so' (N + 1) c').ownBlock = some (w1.alloc (.cells #[.slice ro L rc] 50)).heap.size) → Fr (Value.slice so N c).ownBlock.toList (w1.alloc (.cells #[.slice ro L rc] 50)) w2 →
    ((w2.cell? ⟨t, 21, none⟩ = some (.slice so N c) ∧ w2.frozen? ⟨t, 21, none⟩ = false) ∧ Hid (AdqE W (w2.setCell ⟨t, 21, none⟩ (.slice so' (N + 1) c')) t T so N c vs L Pk))
theorem A3E.of {W V w1 : World} {t : Nat} {T : Tk} {so : Option Addr} {N c : Nat} {vs : List Value} {L : Nat} {Pk : World → World → Option Addr → Nat → Prop} {ro : Option Addr} {rc : Nat} (h : TkM W t T) (hev : T.ev = .slice so N c) (hrow : W.ownsRow 0 50 1 (.slice so N c) N vs) (hf : Fr [] W V) (hf1 : Fr [] V w1) (hP : Pk V w1 ro rc) : A3E W V w1 t T so N c vs L Pk ro rc := by
  have hfa : Fr [] w1 (w1.alloc (.cells #[.slice ro L rc] 50)) := Fr.alloc [] _ _
  have hW1 := hf.then hf1
  have hWa := hW1.then hfa
  refine ⟨owns_keepB hrow hWa (by simp), ?_, ?_⟩
  · intro j u hu
    have hr := heap_alloc_new w1 (.cells #[.slice ro L rc] 50)
    rw [Addr.add_lit, cell_of_row _ _ _ _ _ _ hr, Nat.zero_add]
    simpa using hu
  · intro so' c' w2 h1 h2 h3
    have hne : t ∉ (Value.slice so N c).ownBlock.toList := fun hm => by
      obtain ⟨_, cur, hc⟩ := owns_cells hrow (Option.mem_toList.1 hm)
      unfold TkM at h
      rw [h] at hc
      simp only [Option.some.injEq, Obj.cells.injEq] at hc
      exact absurd hc.2.1 (by decide)
    have hk2 : TkM w2 t T := (h.keep hWa (by simp)).keep h3 hne
    have hc21 := hk2.c21
    rw [hev] at hc21
    have hFs : Fr [t] w2 (w2.setCell ⟨t, 21, none⟩ (.slice so' (N + 1) c')) := Fr.set _ _ _ (by simp)
    refine ⟨⟨hc21, hk2.fz 21⟩, ⟨so', c', ro, rc, V, w1, row_put17 (j := 21) (.slice so' (N + 1) c') hk2, owns_keepB h1 hFs (fun k hk hm => ?_), hP, hf, hf1, ?_, fun k hk => ?_⟩⟩
    · obtain ⟨_, cur, hc⟩ := owns_cells h1 hk
      rw [List.mem_singleton.1 hm] at hc
      unfold TkM at hk2
      rw [hk2] at hc
      simp only [Option.some.injEq, Obj.cells.injEq] at hc
      exact absurd hc.2.1 (by decide)
    · exact ((hfa.mono (by intro x hx _; simp at hx)).then (h3.mono (by intro x hx _; exact List.mem_cons_of_mem _ hx))).then (hFs.mono (by intro x hx _; simp at hx; simp [hx]))
    · rcases h2 with e | e
      · left; rw [← e]; exact hk
      · right
        rw [e] at hk
        cases hk
        have h5 := hWa.size
        exact h5
set_option maxHeartbeats 4000000 in
set_option maxRecDepth 100000 in
theorem addE_of {W : World} {t : Nat} {T : Tk} (r : Rp) (so : Option Addr) (N c : Nat) (vs : List Value) (Pk : World → World → Option Addr → Nat → Prop) (k : Int) (h : TkM W t T) (hev : T.ev = .slice so N c) (hrow : W.ownsRow 0 50 1 (.slice so N c) N vs) (hN : N ≤ 64) (hk : k = 2 ∨ (k = 1 ∧ r.el = 1))
    (hC : ∀ V, Fr [] W V → Calls Tryz.prog 68 #[.slice r.eo r.el r.ec] V fun e w' => ∃ ro rc, e = .returned (.slice ro r.el rc) ∧ Pk V w' ro rc ∧ Fr [] V w') :
    Calls Tryz.prog 21 #[.pointer (some ⟨t, 21, none⟩), .int .u8 k, .agg r.a] W fun e w' => (∃ v, e = .returned v) ∧ AdqE W w' t T so N c vs r.el Pk := by
  obtain ⟨i0, hi, hz0, hz1, hz2⟩ := info_of Tryz.infoRowsE
  have mixed : Tryz.prog.follows .mixedOrders = true := by kernel_rfl
  obtain ⟨W0, HW0⟩ : ∃ W0, Hid (W.alloc (.cells r.a 53) = W0) := ⟨_, rfl⟩
  have hA : Fr [] W W0 := by rw [← HW0.out]; exact Fr.alloc [] W _
  have hb : W0.heap[W.heap.size]? = some (.cells r.a 53 (0, 0)) := by rw [← HW0.out]; exact heap_alloc_new W _
  have hk0 := (h.keep hA (by simp)).c21
  rw [hev] at hk0
  have hlt0 := (h.keep hA (by simp)).lt
  have HC : Hid (∀ V, Fr [] W0 V → Calls Tryz.prog 68 #[.slice r.eo r.el r.ec] V fun e w' => ∃ ro rc, e = .returned (.slice ro r.el rc) ∧ (w'.cell? ⟨t, 21, none⟩ = some (.slice so N c) ∧ (w'.alloc (.cells #[.slice ro r.el rc] 50)).cell? ⟨t, 21, none⟩ = some (.slice so N c)) ∧ Hid (A3E W V w' t T so N c vs r.el Pk ro rc)) := fun V hV => by
    refine (hC V (hA.then hV)).mono ?_
    rintro e w' ⟨ro, rc, rfl, hP, hf⟩
    have ha' := (h.keep (((hA.then hV).then hf).then (Fr.alloc [] w' (.cells #[.slice ro r.el rc] 50))) (by simp)).c21
    have hc' := (h.keep ((hA.then hV).then hf) (by simp)).c21
    rw [hev] at hc' ha'
    exact ⟨ro, rc, rfl, ⟨hc', ha'⟩, A3E.of h hev hrow (hA.then hV) hf hP⟩
  have hr2 : W0.cell? ⟨W.heap.size, 2, none⟩ = some (.slice r.eo r.el r.ec) := by rw [cell_of_row _ _ _ _ _ _ hb]; rfl
  clear h hev hrow hC hA hb
  obtain ⟨ra, rb, eo, el, ec, ho, hl, hc, rj⟩ := r
  simp only [Rp.a] at HW0 HC hr2 ⊢
  obtain ⟨b0, hb0⟩ : ∃ b0, b0 = W.heap.size := ⟨_, rfl⟩
  rw [← hb0] at hr2
  have HB0 : Hid (b0 = W.heap.size) := hb0
  clear hb0
  rcases hk with rfl | ⟨rfl, hel⟩
  · go_enter Tryz.func21, Tryz.ntmps21
    go_upto_region 1 with fail
    rw [HW0.out, ← HB0.out]
    
    go_wp2_with fail
    go_region_law (first
      | (refine step_own _ (by rfl) _ _ 77 50 (by rfl) i0 (.slice none 0 0) 1 24 Tryz.undRowsE hi hz0 hz1 hz2 rfl (by decide) so N c vs (by rfl) HA3.out.row ⟨w1.heap.size, 0, none⟩ 1 [.slice ro el rc] rfl (by rfl) HA3.out.nw (by intro u hu; simp at hu; subst hu; rfl) (by omega) (by omega) ?_; intro so' c' w2 e1 e2 e3; obtain ⟨⟨j0, j1⟩, HR4⟩ := HA3.out.fin so' c' w2 e1 e2 e3)
      | (go_simp; go_at_call 68; with_reducible refine (HC.out _ (Fr.drew _ _)).mono ?_; rintro e w1 ⟨ro, rc, rfl, ⟨g0, g1⟩, HA3⟩; dsimp only))
    all_goals
      clear HA3 HC g0 g1 hk0 hr2
      go_wp2
      go_end0
      exact ⟨⟨_, rfl⟩, HR4.out⟩
  · go_enter Tryz.func21, Tryz.ntmps21
    go_upto_region 1 with fail
    rw [HW0.out, ← HB0.out]
    obtain rfl : el = 1 := hel
    have hq : (((1 : Nat) : Int) != 1) = false := rfl
    go_wp2_with fail
    go_region_law (first
      | (refine step_own _ (by rfl) _ _ 77 50 (by rfl) i0 (.slice none 0 0) 1 24 Tryz.undRowsE hi hz0 hz1 hz2 rfl (by decide) so N c vs (by rfl) HA3.out.row ⟨w1.heap.size, 0, none⟩ 1 [.slice ro 1 rc] rfl (by rfl) HA3.out.nw (by intro u hu; simp at hu; subst hu; rfl) (by omega) (by omega) ?_; intro so' c' w2 e1 e2 e3; obtain ⟨⟨j0, j1⟩, HR4⟩ := HA3.out.fin so' c' w2 e1 e2 e3)
      | (go_simp; go_at_call 68; with_reducible refine (HC.out _ (Fr.drew _ _)).mono ?_; rintro e w1 ⟨ro, rc, rfl, ⟨g0, g1⟩, HA3⟩; dsimp only))
    all_goals
      clear HA3 HC g0 g1 hk0 hr2
      go_wp2
      go_end0
      exact ⟨⟨_, rfl⟩, HR4.out⟩
end Go.Proofs.YtpdkdgmaofhlkaaGreatDoor
/- What a reply adds to what is found: keys with their versions. Conditions as each names them. -/
namespace Go.Proofs.YtpdkdgmaofhlkaaGreatDoor
open Go.ChangeShapes Go.WideShapes Go.ChangeAt Go.RowKit Go.Lib
set_option linter.unusedVariables false
set_option linter.unusedSimpArgs false
theorem Tryz.undRowsH : Tryz.prog.underlying 78 = some (.slice 51) := by kernel_rfl
theorem Tryz.infoRowsH : (Tryz.prog.info? 51).map (fun i => (i.zero, i.size, i.bytes)) = some (some (.slice none 0 0), 1, 24) := by kernel_rfl
/-- What adding leaves. -/
structure AdqH (W w' : World) (t : Nat) (T : Tk) (so : Option Addr) (N c : Nat) (vs : List Value) (L : Nat) (Pk : World → World → Option Addr → Nat → Prop) : Prop where
  ex : ∃ (so' : Option Addr) (c' : Nat) (ro : Option Addr) (rc : Nat) (V w1 : World), TkM w' t { T with hv := .slice so' (N + 1) c' } ∧ w'.ownsRow 0 51 1 (.slice so' (N + 1) c') (N + 1) (vs ++ [.slice ro L rc]) ∧ Pk V w1 ro rc ∧ Fr [] W V ∧ Fr [] V w1 ∧ Fr (t :: (Value.slice so N c).ownBlock.toList) w1 w' ∧ (∀ k, (Value.slice so' (N + 1) c').ownBlock = some k → (Value.slice so N c).ownBlock = some k ∨ W.heap.size ≤ k)
/-- Ahead of the append. -/
structure A3H (W V w1 : World) (t : Nat) (T : Tk) (so : Option Addr) (N c : Nat) (vs : List Value) (L : Nat) (Pk : World → World → Option Addr → Nat → Prop) (ro : Option Addr) (rc : Nat) : Prop where
  row : (w1.alloc (.cells #[.slice ro L rc] 51)).ownsRow 0 51 1 (.slice so N c) N vs
  nw : ∀ j u, [Value.slice ro L rc][j]? = some u → (w1.alloc (.cells #[.slice ro L rc] 51)).cell? ((⟨w1.heap.size, 0, none⟩ : Addr).add j) = some u
  fin : ∀ so' c' w2, w2.ownsRow 0 51 1 (.slice so' (N + 1) c') (N + 1) (vs ++ [.slice ro L rc]) → ((Value.slice so' (N + 1) c').ownBlock = (Value.slice so N c).ownBlock ∨ (Value.slice so' (N + 1) c').ownBlock = some (w1.alloc (.cells #[.slice ro L rc] 51)).heap.size) → Fr (Value.slice so N c).ownBlock.toList (w1.alloc (.cells #[.slice ro L rc] 51)) w2 →
    ((w2.cell? ⟨t, 22, none⟩ = some (.slice so N c) ∧ w2.frozen? ⟨t, 22, none⟩ = false) ∧ Hid (AdqH W (w2.setCell ⟨t, 22, none⟩ (.slice so' (N + 1) c')) t T so N c vs L Pk))
theorem A3H.of {W V w1 : World} {t : Nat} {T : Tk} {so : Option Addr} {N c : Nat} {vs : List Value} {L : Nat} {Pk : World → World → Option Addr → Nat → Prop} {ro : Option Addr} {rc : Nat} (h : TkM W t T) (hev : T.hv = .slice so N c) (hrow : W.ownsRow 0 51 1 (.slice so N c) N vs) (hf : Fr [] W V) (hf1 : Fr [] V w1) (hP : Pk V w1 ro rc) : A3H W V w1 t T so N c vs L Pk ro rc := by
  have hfa : Fr [] w1 (w1.alloc (.cells #[.slice ro L rc] 51)) := Fr.alloc [] _ _
  have hW1 := hf.then hf1
  have hWa := hW1.then hfa
  refine ⟨owns_keepB hrow hWa (by simp), ?_, ?_⟩
  · intro j u hu
    have hr := heap_alloc_new w1 (.cells #[.slice ro L rc] 51)
    rw [Addr.add_lit, cell_of_row _ _ _ _ _ _ hr, Nat.zero_add]
    simpa using hu
  · intro so' c' w2 h1 h2 h3
    have hne : t ∉ (Value.slice so N c).ownBlock.toList := fun hm => by
      obtain ⟨_, cur, hc⟩ := owns_cells hrow (Option.mem_toList.1 hm)
      unfold TkM at h
      rw [h] at hc
      simp only [Option.some.injEq, Obj.cells.injEq] at hc
      exact absurd hc.2.1 (by decide)
    have hk2 : TkM w2 t T := (h.keep hWa (by simp)).keep h3 hne
    have hc21 := hk2.c22
    rw [hev] at hc21
    have hFs : Fr [t] w2 (w2.setCell ⟨t, 22, none⟩ (.slice so' (N + 1) c')) := Fr.set _ _ _ (by simp)
    refine ⟨⟨hc21, hk2.fz 22⟩, ⟨so', c', ro, rc, V, w1, row_put17 (j := 22) (.slice so' (N + 1) c') hk2, owns_keepB h1 hFs (fun k hk hm => ?_), hP, hf, hf1, ?_, fun k hk => ?_⟩⟩
    · obtain ⟨_, cur, hc⟩ := owns_cells h1 hk
      rw [List.mem_singleton.1 hm] at hc
      unfold TkM at hk2
      rw [hk2] at hc
      simp only [Option.some.injEq, Obj.cells.injEq] at hc
      exact absurd hc.2.1 (by decide)
    · exact ((hfa.mono (by intro x hx _; simp at hx)).then (h3.mono (by intro x hx _; exact List.mem_cons_of_mem _ hx))).then (hFs.mono (by intro x hx _; simp at hx; simp [hx]))
    · rcases h2 with e | e
      · left; rw [← e]; exact hk
      · right
        rw [e] at hk
        cases hk
        have h5 := hWa.size
        exact h5
set_option maxHeartbeats 4000000 in
set_option maxRecDepth 100000 in
theorem addH_of {W : World} {t : Nat} {T : Tk} (r : Rp) (so : Option Addr) (N c : Nat) (vs : List Value) (Pk : World → World → Option Addr → Nat → Prop) (k : Int) (h : TkM W t T) (hev : T.hv = .slice so N c) (hrow : W.ownsRow 0 51 1 (.slice so N c) N vs) (hN : N ≤ 64) (hk : k = 4)
    (hC : ∀ V, Fr [] W V → Calls Tryz.prog 69 #[.slice r.ho r.hl r.hc] V fun e w' => ∃ ro rc, e = .returned (.slice ro r.hl rc) ∧ Pk V w' ro rc ∧ Fr [] V w') :
    Calls Tryz.prog 21 #[.pointer (some ⟨t, 21, none⟩), .int .u8 k, .agg r.a] W fun e w' => (∃ v, e = .returned v) ∧ AdqH W w' t T so N c vs r.hl Pk := by
  obtain ⟨i0, hi, hz0, hz1, hz2⟩ := info_of Tryz.infoRowsH
  have mixed : Tryz.prog.follows .mixedOrders = true := by kernel_rfl
  obtain ⟨W0, HW0⟩ : ∃ W0, Hid (W.alloc (.cells r.a 53) = W0) := ⟨_, rfl⟩
  have hA : Fr [] W W0 := by rw [← HW0.out]; exact Fr.alloc [] W _
  have hb : W0.heap[W.heap.size]? = some (.cells r.a 53 (0, 0)) := by rw [← HW0.out]; exact heap_alloc_new W _
  have hk0 := (h.keep hA (by simp)).c22
  rw [hev] at hk0
  have hlt0 := (h.keep hA (by simp)).lt
  have HC : Hid (∀ V, Fr [] W0 V → Calls Tryz.prog 69 #[.slice r.ho r.hl r.hc] V fun e w' => ∃ ro rc, e = .returned (.slice ro r.hl rc) ∧ (w'.cell? ⟨t, 22, none⟩ = some (.slice so N c) ∧ (w'.alloc (.cells #[.slice ro r.hl rc] 51)).cell? ⟨t, 22, none⟩ = some (.slice so N c)) ∧ Hid (A3H W V w' t T so N c vs r.hl Pk ro rc)) := fun V hV => by
    refine (hC V (hA.then hV)).mono ?_
    rintro e w' ⟨ro, rc, rfl, hP, hf⟩
    have ha' := (h.keep (((hA.then hV).then hf).then (Fr.alloc [] w' (.cells #[.slice ro r.hl rc] 51))) (by simp)).c22
    have hc' := (h.keep ((hA.then hV).then hf) (by simp)).c22
    rw [hev] at hc' ha'
    exact ⟨ro, rc, rfl, ⟨hc', ha'⟩, A3H.of h hev hrow (hA.then hV) hf hP⟩
  have hr2 : W0.cell? ⟨W.heap.size, 3, none⟩ = some (.slice r.ho r.hl r.hc) := by rw [cell_of_row _ _ _ _ _ _ hb]; rfl
  clear h hev hrow hC hA hb
  obtain ⟨ra, rb, eo, el, ec, ho, hl, hc, rj⟩ := r
  simp only [Rp.a] at HW0 HC hr2 ⊢
  obtain ⟨b0, hb0⟩ : ∃ b0, b0 = W.heap.size := ⟨_, rfl⟩
  rw [← hb0] at hr2
  have HB0 : Hid (b0 = W.heap.size) := hb0
  clear hb0
  subst hk
  go_enter Tryz.func21, Tryz.ntmps21
  go_upto_region 1 with fail
  rw [HW0.out, ← HB0.out]
  
  go_wp2_with fail
  go_region_law (first
    | (refine step_own _ (by rfl) _ _ 78 51 (by rfl) i0 (.slice none 0 0) 1 24 Tryz.undRowsH hi hz0 hz1 hz2 rfl (by decide) so N c vs (by rfl) HA3.out.row ⟨w1.heap.size, 0, none⟩ 1 [.slice ro hl rc] rfl (by rfl) HA3.out.nw (by intro u hu; simp at hu; subst hu; rfl) (by omega) (by omega) ?_; intro so' c' w2 e1 e2 e3; obtain ⟨⟨j0, j1⟩, HR4⟩ := HA3.out.fin so' c' w2 e1 e2 e3)
    | (go_simp; go_at_call 69; with_reducible refine (HC.out _ (Fr.drew _ _)).mono ?_; rintro e w1 ⟨ro, rc, rfl, ⟨g0, g1⟩, HA3⟩; dsimp only))
  all_goals
    clear HA3 HC g0 g1 hk0 hr2
    go_wp2
    go_end0
    exact ⟨⟨_, rfl⟩, HR4.out⟩
end Go.Proofs.YtpdkdgmaofhlkaaGreatDoor
