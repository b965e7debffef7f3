/- Texts of this claim laid together, one behind the other: contracts and plain lemmas; conditions as each names them. -/
import Derived.Test.YtpdkdgmaofhlkaaGp33
import Derived.Maps.AppendAt
import Derived.Test.YtpdkdgmaofhlkaaGp26
/- One element more behind a row of one's own, whatever its type: as a step of a region, as an operation. Conditions as each names them. -/
namespace Go.Proofs.Ytpdkdgmaofhlkaa
open Go.ChangeShapes Go.WideShapes Go.ChangeAt Go.RowKit Go.Lib
set_option linter.unusedVariables false
set_option linter.unusedSimpArgs false
theorem run_own (w : World) (t ty e : TypeId) (i : TypeInfo) (z : Value) (size bytes : Nat) (ht : Try.prog.underlying t = some (.slice e)) (hi : Try.prog.info? e = some i) (hz : i.zero = some z)
    (hsize : i.size = size) (hby : i.bytes = bytes) (hzs : z.cells.size = size) (hsz : 0 < size) (so : Option Addr) (N c : Nat) (xs : List Value) (hK : w.ownsRow 0 e size (.slice so N c) N xs)
    (ad : Addr) (cc : Nat) (news : List Value) (hl : news.length = size) (hy : ∀ j u, news[j]? = some u → w.cell? (ad.add j) = some u) (h1 : ∀ u ∈ news, u.oneCell' = true) (hN : N < 100000000) (hb : bytes ≤ 200) :
    ∃ so' c' w', (Builtin.append_ #[t, t] ty #[.slice so N c, .slice (some ad) 1 cc]).run Try.prog w = .ok (.slice so' (N + 1) c') w' ∧ w'.ownsRow 0 e size (.slice so' (N + 1) c') (N + 1) (xs ++ news) ∧ ((Value.slice so' (N + 1) c').ownBlock = (Value.slice so N c).ownBlock ∨ (Value.slice so' (N + 1) c').ownBlock = some w.heap.size) ∧ Fr (Value.slice so N c).ownBlock.toList w w' := by
  have hmx : 200000000 ≤ maxLen := by unfold maxLen; omega
  have hbb : (N + 1) * bytes ≤ 140737488355328 := by
    have h1 : (N + 1) * bytes ≤ 100000000 * 200 := Nat.mul_le_mul (by omega) hb
    omega
  obtain ⟨v', w', hr, h2, h3, h4, h5⟩ := run_append_own_at (P := Try.prog) w 0 t ty e i z size bytes ht hi hz hsize hby hzs hsz (.slice so N c) N xs hK ad 1 cc news (by omega) hy h1 (by omega) hbb (Nat.zero_le _)
  obtain ⟨o', c', rfl⟩ : ∃ o' c', v' = .slice o' (N + 1) c' := by
    rcases h2.2 with ⟨_, h1⟩ | ⟨g, cap, _, rfl, _⟩
    · omega
    · exact ⟨_, cap, rfl⟩
  exact ⟨o', c', w', hr, h2, h5, Fr.grown h3 (fun y hy _ => Option.mem_toList.2 hy)⟩
theorem step_own (w : World) {ops : Array Oper} {op : Oper} {a : Act} {K : Act → World → Prop} {Q : Exit → Act → World → Prop} {E : Prop} (hg : op.guard = none) (s x : Operand) (t e : TypeId)
    (ho : op.op = .call { callee := .builtin .append, args := #[s, x], argTypes := #[t, t] }) (i : TypeInfo) (z : Value) (size bytes : Nat) (ht : Try.prog.underlying t = some (.slice e)) (hi : Try.prog.info? e = some i) (hz : i.zero = some z)
    (hsize : i.size = size) (hby : i.bytes = bytes) (hzs : z.cells.size = size) (hsz : 0 < size) (so : Option Addr) (N c : Nat) (xs : List Value) (hsv : a.eval s = .slice so N c) (hK : w.ownsRow 0 e size (.slice so N c) N xs)
    (ad : Addr) (cc : Nat) (news : List Value) (hl : news.length = size) (hx : a.eval x = .slice (some ad) 1 cc) (hy : ∀ j u, news[j]? = some u → w.cell? (ad.add j) = some u) (h1 : ∀ u ∈ news, u.oneCell' = true) (hN : N < 100000000) (hb : bytes ≤ 200)
    (h : ∀ so' c' w', w'.ownsRow 0 e size (.slice so' (N + 1) c') (N + 1) (xs ++ news) → ((Value.slice so' (N + 1) c').ownBlock = (Value.slice so N c).ownBlock ∨ (Value.slice so' (N + 1) c').ownBlock = some w.heap.size) → Fr (Value.slice so N c).ownBlock.toList w w' → K (a.put op.dst (.slice so' (N + 1) c')) w') :
    if Region.wanted op (yielded ops a.tmps) = true then Oper.wp Try.prog op a w K Q else E := by
  have hw : Region.wanted op (yielded ops a.tmps) = true := by simp [Region.wanted, hg]
  rw [if_pos hw]
  obtain ⟨so', c', w', hr, h2, h3, h4⟩ := run_own w t op.type e i z size bytes ht hi hz hsize hby hzs hsz so N c xs hK ad cc news hl hy h1 hN hb
  unfold Oper.wp execOp
  simp only [ho, resolve, invoke, builtin, Sem.run_bind, Sem.run_pure, Result.andThen_ok, List.map_toArray, List.map_cons, List.map_nil, hsv, hx, hr]
  exact h so' c' w' h2 h3 h4
theorem wpList_own (w : World) {ops : Array Oper} {rest : List Oper} {o : Oper} {a : Act} {Q : Exit → Act → World → Prop} (hgd : o.guard = none) (s x : Operand) (t e : TypeId)
    (ho : o.op = .call { callee := .builtin .append, args := #[s, x], argTypes := #[t, t] }) (i : TypeInfo) (z : Value) (size bytes : Nat) (ht : Try.prog.underlying t = some (.slice e)) (hi : Try.prog.info? e = some i) (hz : i.zero = some z)
    (hsize : i.size = size) (hby : i.bytes = bytes) (hzs : z.cells.size = size) (hsz : 0 < size) (so : Option Addr) (N c : Nat) (xs : List Value) (hsv : a.eval s = .slice so N c) (hK : w.ownsRow 0 e size (.slice so N c) N xs)
    (ad : Addr) (cc : Nat) (news : List Value) (hl : news.length = size) (hx : a.eval x = .slice (some ad) 1 cc) (hy : ∀ j u, news[j]? = some u → w.cell? (ad.add j) = some u) (h1 : ∀ u ∈ news, u.oneCell' = true) (hN : N < 100000000) (hb : bytes ≤ 200)
    (h : ∀ so' c' w', w'.ownsRow 0 e size (.slice so' (N + 1) c') (N + 1) (xs ++ news) → ((Value.slice so' (N + 1) c').ownBlock = (Value.slice so N c).ownBlock ∨ (Value.slice so' (N + 1) c').ownBlock = some w.heap.size) → Fr (Value.slice so N c).ownBlock.toList w w' → wpList Try.prog ops Q rest (a.put o.dst (.slice so' (N + 1) c')) w') : wpList Try.prog ops Q (o :: rest) a w := by
  refine wpList_plain hgd fun K hK' => ?_
  obtain ⟨so', c', w', hr, h2, h3, h4⟩ := run_own w t o.type e i z size bytes ht hi hz hsize hby hzs hsz so N c xs hK ad cc news hl hy h1 hN hb
  unfold Oper.wp execOp
  simp only [ho, resolve, invoke, builtin, Sem.run_bind, Sem.run_pure, Result.andThen_ok, List.map_toArray, List.map_cons, List.map_nil, hsv, hx, hr]
  exact hK' _ _ (h so' c' w' h2 h3 h4)
theorem info_of {t : TypeId} {z : Value} {s b : Nat} (h : (Try.prog.info? t).map (fun i => (i.zero, i.size, i.bytes)) = some (some z, s, b)) : ∃ i, Try.prog.info? t = some i ∧ i.zero = some z ∧ i.size = s ∧ i.bytes = b := by
  cases hi : Try.prog.info? t with
  | none => rw [hi] at h; cases h
  | some i =>
    rw [hi] at h
    simp only [Option.map_some, Option.some.injEq, Prod.mk.injEq] at h
    exact ⟨i, rfl, h.1, h.2.1, h.2.2⟩
end Go.Proofs.Ytpdkdgmaofhlkaa
/- The document's task: what it asks. Conditions as each names them. -/
namespace Go.Proofs.Ytpdkdgmaofhlkaa
open Go.ChangeShapes Go.WideShapes Go.ChangeAt Go.RowKit Go.Lib
set_option linter.unusedVariables false
set_option linter.unusedSimpArgs false

theorem YtM.c1 {w : World} {t : Nat} {T : Yt} (h : YtM w t T) : w.cell? ⟨t, 1, none⟩ = some (.int .i64 T.l) := by rw [cell_of_row _ _ _ _ _ _ h]; rfl
theorem YtM.c2 {w : World} {t : Nat} {T : Yt} (h : YtM w t T) : w.cell? ⟨t, 2, none⟩ = some (.int .i64 T.s) := by rw [cell_of_row _ _ _ _ _ _ h]; rfl
theorem YtM.c3 {w : World} {t : Nat} {T : Yt} (h : YtM w t T) : w.cell? ⟨t, 3, none⟩ = some (.int .i64 T.x) := by rw [cell_of_row _ _ _ _ _ _ h]; rfl
theorem YtM.c4 {w : World} {t : Nat} {T : Yt} (h : YtM w t T) : w.cell? ⟨t, 4, none⟩ = some (.int .i64 T.q) := by rw [cell_of_row _ _ _ _ _ _ h]; rfl
theorem YtM.c5 {w : World} {t : Nat} {T : Yt} (h : YtM w t T) : w.cell? ⟨t, 5, none⟩ = some (.int .u8 T.k) := by rw [cell_of_row _ _ _ _ _ _ h]; rfl
theorem YtM.c6 {w : World} {t : Nat} {T : Yt} (h : YtM w t T) : w.cell? ⟨t, 6, none⟩ = some (.string T.key) := by rw [cell_of_row _ _ _ _ _ _ h]; rfl
theorem YtM.c7 {w : World} {t : Nat} {T : Yt} (h : YtM w t T) : w.cell? ⟨t, 7, none⟩ = some (.string T.en) := by rw [cell_of_row _ _ _ _ _ _ h]; rfl
theorem zero_box {w1 w2 : World} (hf : Fr [] (w1.alloc (.cells #[.int .u8 0, .int .i64 0, .int .i64 0, .string ⟨#[]⟩, .string ⟨#[]⟩, .bool false, .string ⟨#[]⟩, .string ⟨#[]⟩, .slice none 0 0] 55)) w2) : w2.heap[w1.heap.size]? = some (.cells #[.int .u8 0, .int .i64 0, .int .i64 0, .string ⟨#[]⟩, .string ⟨#[]⟩, .bool false, .string ⟨#[]⟩, .string ⟨#[]⟩, .slice none 0 0] 55 (0, 0)) := hf.keep (heap_alloc_new w1 _) (by simp)
theorem rq_frozen {W : World} {b : Nat} {cs : Array Value} {ty : TypeId} (h : W.heap[b]? = some (.cells cs ty (0, 0))) : W.frozen? ⟨b, 0, none⟩ = false ∧ W.frozen? ⟨b, 1, none⟩ = false ∧ W.frozen? ⟨b, 2, none⟩ = false ∧ W.frozen? ⟨b, 3, none⟩ = false ∧ W.frozen? ⟨b, 4, none⟩ = false ∧ W.frozen? ⟨b, 5, none⟩ = false ∧ W.frozen? ⟨b, 6, none⟩ = false ∧ W.frozen? ⟨b, 7, none⟩ = false ∧ W.frozen? ⟨b, 8, none⟩ = false := by
  have : ∀ j, W.frozen? ⟨b, j, none⟩ = false := fun j => by simp [World.frozen?, h]
  exact ⟨this 0, this 1, this 2, this 3, this 4, this 5, this 6, this 7, this 8⟩
/-- All numbers of a slice behind none, as a step of a region. -/
theorem step_allI (w : World) {ops : Array Oper} {op : Oper} {a : Act} {K : Act → World → Prop} {Q : Exit → Act → World → Prop} {E : Prop} (hg : op.guard = none) (s x : Operand)
    (ho : op.op = .call { callee := .builtin .append, args := #[s, x], argTypes := #[42, 42] }) (hsv : a.eval s = .slice none 0 0) (ao : Option Addr) (L cap : Nat) (ns : List Int) (hx : a.eval x = .slice ao L cap) (hI : IRs w ao ns) (hL : L = ns.length) (hc : L ≤ 131072)
    (h : ∀ ro rc w', w'.ownsRow w.heap.size 3 1 (.slice ro L rc) L (intsC ns) → Fr [] w w' → K (a.put op.dst (.slice ro L rc)) w') :
    if Region.wanted op (yielded ops a.tmps) = true then Oper.wp Try.prog op a w K Q else E := by
  have hw : Region.wanted op (yielded ops a.tmps) = true := by simp [Region.wanted, hg]
  rw [if_pos hw]
  obtain ⟨i0, hi, hz0, hz1, hz2⟩ := infoI15_parts
  have hO : w.ownsRow w.heap.size 3 1 (.slice none 0 0) 0 [] := ⟨rfl, .inl ⟨rfl, rfl⟩⟩
  cases ao with
  | none =>
    have hns : ns = [] := by
      rcases Nat.eq_zero_or_pos ns.length with h0 | h0
      · exact List.eq_nil_of_length_eq_zero h0
      · obtain ⟨_, _, e, _⟩ := hI.lies h0
        cases e
    subst hns
    obtain rfl : L = 0 := hL
    have hr := run_append_noneE (P := Try.prog) w 42 op.type 3 i0 1 cap w.heap.size Try.undIs15 hi (.slice none 0 0) 0 [] hO
    unfold Oper.wp execOp
    simp only [ho, resolve, invoke, builtin, Sem.run_bind, Sem.run_pure, Result.andThen_ok, List.map_toArray, List.map_cons, List.map_nil, hsv, hx, hr]
    exact h none 0 w hO (Fr.refl _ _)
  | some ad =>
    have hy : ∀ j u, (intsC ns)[j]? = some u → w.cell? (ad.add j) = some u := by
      intro j u hu
      have hj : j < ns.length := by
        have := (List.getElem?_eq_some_iff.1 hu).1
        rwa [intsC_length] at this
      obtain ⟨b, off, e, _, hc⟩ := hI.lies (by omega)
      cases e
      rw [Addr.add_lit, hc j hj, ← intsC_get ns j hj, hu]
    have hmx : 131072 ≤ maxLen := by unfold maxLen; omega
    obtain ⟨v', w', hr, h2, h3, _, _⟩ := run_append_own_at (P := Try.prog) w w.heap.size 42 op.type 3 i0 _ 1 8 Try.undIs15 hi hz0 hz1 hz2 rfl (by decide) (.slice none 0 0) 0 [] hO ad L cap (intsC ns) (by rw [intsC_length, hL]; omega) hy (by intro u hu; obtain ⟨n, _, rfl⟩ := List.mem_map.1 hu; rfl) (by omega) (by omega) (Nat.le_refl _)
    rw [Nat.zero_add, List.nil_append] at h2
    obtain ⟨ro, rc, rfl⟩ : ∃ ro rc, v' = .slice ro L rc := by
      obtain ⟨ro, rc, e⟩ := own_shapeE h2
      exact ⟨ro, rc, e⟩
    unfold Oper.wp execOp
    simp only [ho, resolve, invoke, builtin, Sem.run_bind, Sem.run_pure, Result.andThen_ok, List.map_toArray, List.map_cons, List.map_nil, hsv, hx, hr]
    exact h ro rc w' h2 (Fr.grown h3 (by intro k hk; simp [Value.ownBlock] at hk))
/-- The request in its box. -/
theorem req_fin {w W : World} (r : Rv) (hA : Fr [] w W) (hB : W.heap[w.heap.size]? = some (.cells #[.int .u8 0, .int .i64 0, .int .i64 0, .string ⟨#[]⟩, .string ⟨#[]⟩, .bool false, .string ⟨#[]⟩, .string ⟨#[]⟩, .slice none 0 0] 55 (0, 0))) :
    (((((((((W.setCell ⟨w.heap.size, 0, none⟩ (.int .u8 r.k)).setCell ⟨w.heap.size, 1, none⟩ (.int .i64 r.f)).setCell ⟨w.heap.size, 2, none⟩ (.int .i64 r.n)).setCell ⟨w.heap.size, 3, none⟩ (.string ⟨#[]⟩)).setCell ⟨w.heap.size, 4, none⟩ (.string ⟨#[]⟩)).setCell ⟨w.heap.size, 5, none⟩ (.bool false)).setCell ⟨w.heap.size, 6, none⟩ (.string r.key)).setCell ⟨w.heap.size, 7, none⟩ (.string r.en)).setCell ⟨w.heap.size, 8, none⟩ (.slice r.bo r.bl r.bc)).heap[w.heap.size]? = some (.cells r.a 55 (0, 0)) ∧ Fr [] w (((((((((W.setCell ⟨w.heap.size, 0, none⟩ (.int .u8 r.k)).setCell ⟨w.heap.size, 1, none⟩ (.int .i64 r.f)).setCell ⟨w.heap.size, 2, none⟩ (.int .i64 r.n)).setCell ⟨w.heap.size, 3, none⟩ (.string ⟨#[]⟩)).setCell ⟨w.heap.size, 4, none⟩ (.string ⟨#[]⟩)).setCell ⟨w.heap.size, 5, none⟩ (.bool false)).setCell ⟨w.heap.size, 6, none⟩ (.string r.key)).setCell ⟨w.heap.size, 7, none⟩ (.string r.en)).setCell ⟨w.heap.size, 8, none⟩ (.slice r.bo r.bl r.bc)) ∧ Fr [w.heap.size] W (((((((((W.setCell ⟨w.heap.size, 0, none⟩ (.int .u8 r.k)).setCell ⟨w.heap.size, 1, none⟩ (.int .i64 r.f)).setCell ⟨w.heap.size, 2, none⟩ (.int .i64 r.n)).setCell ⟨w.heap.size, 3, none⟩ (.string ⟨#[]⟩)).setCell ⟨w.heap.size, 4, none⟩ (.string ⟨#[]⟩)).setCell ⟨w.heap.size, 5, none⟩ (.bool false)).setCell ⟨w.heap.size, 6, none⟩ (.string r.key)).setCell ⟨w.heap.size, 7, none⟩ (.string r.en)).setCell ⟨w.heap.size, 8, none⟩ (.slice r.bo r.bl r.bc)) := by
  have hN := nine_fin (v0 := .int .u8 r.k) (v1 := .int .i64 r.f) (v2 := .int .i64 r.n) (v3 := .string ⟨#[]⟩) (v4 := .string ⟨#[]⟩) (v5 := .bool false) (v6 := .string r.key) (v7 := .string r.en) (v8 := .slice r.bo r.bl r.bc) hB
  exact ⟨hN.1, hA.on hN.2 (by intro x hx; simp at hx; omega), hN.2⟩
set_option maxHeartbeats 2000000 in
set_option maxRecDepth 100000 in
theorem yoabove_any (a : Int) (ao : Option Addr) (L cap : Nat) (ns : List Int) (B : Bool) (w : World) (hI : IRs w ao ns) (hL : L = ns.length) (hB : B = true ↔ Ab a ns) :
    Calls Try.prog 52 #[.slice ao L cap, .int .i64 a] w fun e w' => e = .returned (.bool B) ∧ w = w' := by
  have HI : Hid (IRs w ao ns) := hI
  have HL : Hid (L = ns.length) := hL
  have HB : Hid (B = true ↔ Ab a ns) := hB
  have hLm : L ≤ 17592186044416 := by have := hI.few; omega
  clear hI hL hB
  go_enter Try.func52, Try.ntmps52
  go_wp2_with fail
  go_loopw [1, 5] (fun cc ii wr => ∃ (c : Int) (i : Nat), cc = .int .i64 c ∧ ii = .int .i64 i ∧ i ≤ L ∧ Hid (Ab a ns ↔ Ab c (ns.drop i)) ∧ Hid (w = wr)) (fun _ ii _ => L - (RowKit.intOf ii).toNat)
  case atStart => exact ⟨a, 0, rfl, rfl, Nat.zero_le _, Iff.rfl, rfl⟩
  case round =>
    obtain ⟨c, i, rfl, rfl, hiL, HA, HW⟩ := hrel
    by_cases hi : i < L
    · have hi' : i < ns.length := by rw [← HL.out]; exact hi
      obtain ⟨b, off, rfl, hb, hc⟩ := HI.out.lies (by omega)
      have c0 := hc i hi'
      rw [HW.out] at c0
      have HD : Hid (ns.drop i = ns.getD i 0 :: ns.drop (i + 1)) := drop_getD17 ns i hi'
      obtain ⟨n, hn⟩ : ∃ n, n = ns.getD i 0 := ⟨_, rfl⟩
      rw [← hn] at c0 HD
      clear hc hb hn
      by_cases h1 : n ≤ c
      · have hN : B = false := by
          cases B with
          | false => rfl
          | true => have := HA.out.1 (HB.out.1 rfl); rw [HD.out] at this; have := this.1; omega
        clear HA HB HD
        subst hN
        go_wp2
        go_ret
        exact ⟨rfl, HW.out⟩
      · by_cases h2 : 65536 < n
        · have hN : B = false := by
            cases B with
            | false => rfl
            | true => have := HA.out.1 (HB.out.1 rfl); rw [HD.out] at this; have := this.2.1; omega
          clear HA HB HD
          subst hN
          go_wp2
          go_ret
          exact ⟨rfl, HW.out⟩
        · have HA2 : Hid (Ab a ns ↔ Ab n (ns.drop (i + 1))) := HA.out.trans (by rw [HD.out]; exact ⟨fun h => h.2.2, fun h => ⟨by omega, by omega, h⟩⟩)
          clear HA HD
          go_wp2_with fail
          go_roundw
          case rel => exact ⟨n, i + 1, rfl, by simp, by omega, HA2, HW⟩
          case measure => simp [RowKit.intOf]; omega
    · have hN : B = true := by
        refine HB.out.2 (HA.out.2 ?_)
        rw [List.drop_of_length_le (by have := HL.out; omega)]
        trivial
      clear HA HB
      subst hN
      go_wp2
      go_ret
      exact ⟨rfl, HW.out⟩
end Go.Proofs.Ytpdkdgmaofhlkaa
/- The document's task: what a Get asks. Conditions as each names them. -/
namespace Go.Proofs.Ytpdkdgmaofhlkaa
open Go.ChangeShapes Go.WideShapes Go.ChangeAt Go.RowKit Go.Lib
set_option linter.unusedVariables false
set_option linter.unusedSimpArgs false

set_option maxHeartbeats 1500000 in
set_option maxRecDepth 100000 in
theorem yreq1 {w : World} {t : Nat} {T : Yt} (h : YtM w t T) (hk : T.k = 1) (ma le : Int) (v : Value) :
    Calls Try.prog 54 #[.pointer (some ⟨t, 0, none⟩), .int .i64 ma, .int .i64 le, v] w fun e w' => e = .returned (Rv.v ⟨2, T.n, ma, T.key, ⟨#[]⟩, none, 0, 0⟩) ∧ Fr [] w w' := by
  have mixed : Try.prog.follows .mixedOrders = true := by kernel_rfl
  obtain ⟨W, HW⟩ : ∃ W, Hid (w.alloc (.cells #[.int .u8 0, .int .i64 0, .int .i64 0, .string ⟨#[]⟩, .string ⟨#[]⟩, .bool false, .string ⟨#[]⟩, .string ⟨#[]⟩, .slice none 0 0] 55) = W) := ⟨_, rfl⟩
  have hA : Fr [] w W := by rw [← HW.out]; exact Fr.alloc [] w _
  have hB : W.heap[w.heap.size]? = some (.cells #[.int .u8 0, .int .i64 0, .int .i64 0, .string ⟨#[]⟩, .string ⟨#[]⟩, .bool false, .string ⟨#[]⟩, .string ⟨#[]⟩, .slice none 0 0] 55 (0, 0)) := by rw [← HW.out]; exact heap_alloc_new w _
  have hk1 := h.keep hA (by simp)
  have c0 := hk1.c0
  have c5 := hk1.c5
  have c6 := hk1.c6
  have c7 := hk1.c7
  rw [hk] at c5
  have hlt := h.lt
  have n1 : t ≠ w.heap.size := by omega
  have n2 : w.heap.size ≠ t := by omega
  have HB : Hid (∀ V, Fr [] W V → _) := fun V hf => req_fin (w := w) (W := V) ⟨2, T.n, ma, T.key, ⟨#[]⟩, none, 0, 0⟩ (hA.then hf) (hf.keep hB (by simp))
  have HBB : Hid (W.heap[w.heap.size]? = some (.cells #[.int .u8 0, .int .i64 0, .int .i64 0, .string ⟨#[]⟩, .string ⟨#[]⟩, .bool false, .string ⟨#[]⟩, .string ⟨#[]⟩, .slice none 0 0] 55 (0, 0))) := hB
  clear h hk hk1 hA hB
  obtain ⟨n, l, s, x, q, k, key, en, bg, ma0, so, sl, sc, ro, rl, rc, ak, po, pl, pc⟩ := T
  simp only at c0 c5 c6 c7 HB ⊢
  go_enter Try.func54, Try.ntmps54
  go_upto_region 1 with fail
  rw [HW.out]
  obtain ⟨b, hb⟩ : ∃ b, b = w.heap.size := ⟨_, rfl⟩
  rw [← hb] at HBB n1 n2 ⊢
  have HBb : Hid (b = w.heap.size) := hb
  clear hb
  clear HW
  go_upto_region 3 with fail
  clear c5
  obtain ⟨d0, d1, d2, d3, d4, d5, d6, d7, d8⟩ := rq_cells HBB.out
  obtain ⟨z0, z1, z2, z3, z4, z5, z6, z7, z8⟩ := rq_frozen HBB.out
  go_region
  all_goals
    obtain ⟨q1, q2, q3⟩ := HB.out W (Fr.refl [] W)
    rw [← HBb.out] at q1 q2
    have q1' := (Fr.drew [] _).keep q1 (by simp)
    have HQ : Hid (_ ∧ _) := And.intro q1' (q2.then (Fr.drew [] _))
    clear q1 q2 q3 q1' HB d0 d1 d2 d3 d4 d5 d6 d7 d8 z0 z1 z2 z3 z4 z5 z6 z7 z8 c0 c6 c7
    go_wp2
    refine bodyPost_ret (results_c_row rfl _ _ _ b _ rfl (load_req ⟨2, n, ma, key, ⟨#[]⟩, none, 0, 0⟩ HQ.out.1)) rfl ?_
    exact ⟨rfl, HQ.out.2⟩
end Go.Proofs.Ytpdkdgmaofhlkaa
/- The document's task: what a Scan asks. Conditions as each names them. -/
namespace Go.Proofs.Ytpdkdgmaofhlkaa
open Go.ChangeShapes Go.WideShapes Go.ChangeAt Go.RowKit Go.Lib
set_option linter.unusedVariables false
set_option linter.unusedSimpArgs false

set_option maxHeartbeats 1500000 in
set_option maxRecDepth 100000 in
theorem yreq2 {w : World} {t : Nat} {T : Yt} (h : YtM w t T) (hk : T.k = 2) (ma le : Int) (v : Value) :
    Calls Try.prog 54 #[.pointer (some ⟨t, 0, none⟩), .int .i64 ma, .int .i64 le, v] w fun e w' => e = .returned (Rv.v ⟨3, T.n, ma, T.key, T.en, none, 0, 0⟩) ∧ Fr [] w w' := by
  have mixed : Try.prog.follows .mixedOrders = true := by kernel_rfl
  obtain ⟨W, HW⟩ : ∃ W, Hid (w.alloc (.cells #[.int .u8 0, .int .i64 0, .int .i64 0, .string ⟨#[]⟩, .string ⟨#[]⟩, .bool false, .string ⟨#[]⟩, .string ⟨#[]⟩, .slice none 0 0] 55) = W) := ⟨_, rfl⟩
  have hA : Fr [] w W := by rw [← HW.out]; exact Fr.alloc [] w _
  have hB : W.heap[w.heap.size]? = some (.cells #[.int .u8 0, .int .i64 0, .int .i64 0, .string ⟨#[]⟩, .string ⟨#[]⟩, .bool false, .string ⟨#[]⟩, .string ⟨#[]⟩, .slice none 0 0] 55 (0, 0)) := by rw [← HW.out]; exact heap_alloc_new w _
  have hk1 := h.keep hA (by simp)
  have c0 := hk1.c0
  have c5 := hk1.c5
  have c6 := hk1.c6
  have c7 := hk1.c7
  rw [hk] at c5
  have hlt := h.lt
  have n1 : t ≠ w.heap.size := by omega
  have n2 : w.heap.size ≠ t := by omega
  have HB : Hid (∀ V, Fr [] W V → _) := fun V hf => req_fin (w := w) (W := V) ⟨3, T.n, ma, T.key, T.en, none, 0, 0⟩ (hA.then hf) (hf.keep hB (by simp))
  have HBB : Hid (W.heap[w.heap.size]? = some (.cells #[.int .u8 0, .int .i64 0, .int .i64 0, .string ⟨#[]⟩, .string ⟨#[]⟩, .bool false, .string ⟨#[]⟩, .string ⟨#[]⟩, .slice none 0 0] 55 (0, 0))) := hB
  clear h hk hk1 hA hB
  obtain ⟨n, l, s, x, q, k, key, en, bg, ma0, so, sl, sc, ro, rl, rc, ak, po, pl, pc⟩ := T
  simp only at c0 c5 c6 c7 HB ⊢
  go_enter Try.func54, Try.ntmps54
  go_upto_region 1 with fail
  rw [HW.out]
  obtain ⟨b, hb⟩ : ∃ b, b = w.heap.size := ⟨_, rfl⟩
  rw [← hb] at HBB n1 n2 ⊢
  have HBb : Hid (b = w.heap.size) := hb
  clear hb
  clear HW
  go_upto_region 5 with fail
  clear c5
  obtain ⟨d0, d1, d2, d3, d4, d5, d6, d7, d8⟩ := rq_cells HBB.out
  obtain ⟨z0, z1, z2, z3, z4, z5, z6, z7, z8⟩ := rq_frozen HBB.out
  go_region
  all_goals
    obtain ⟨q1, q2, q3⟩ := HB.out W (Fr.refl [] W)
    rw [← HBb.out] at q1 q2
    have q1' := (Fr.drew [] _).keep q1 (by simp)
    have HQ : Hid (_ ∧ _) := And.intro q1' (q2.then (Fr.drew [] _))
    clear q1 q2 q3 q1' HB d0 d1 d2 d3 d4 d5 d6 d7 d8 z0 z1 z2 z3 z4 z5 z6 z7 z8 c0 c6 c7
    go_wp2
    refine bodyPost_ret (results_c_row rfl _ _ _ b _ rfl (load_req ⟨3, n, ma, key, en, none, 0, 0⟩ HQ.out.1)) rfl ?_
    exact ⟨rfl, HQ.out.2⟩
end Go.Proofs.Ytpdkdgmaofhlkaa
/- The document's task: what a Collect and a Save ask. Conditions as each names them. -/
namespace Go.Proofs.Ytpdkdgmaofhlkaa
open Go.ChangeShapes Go.WideShapes Go.ChangeAt Go.RowKit Go.Lib
set_option linter.unusedVariables false
set_option linter.unusedSimpArgs false

set_option maxHeartbeats 4000000 in
set_option maxRecDepth 100000 in
theorem yreq3 {w : World} {t : Nat} {T : Yt} (h : YtM w t T) (hk : T.k = 3) (ma le : Int) (v : Value) :
    Calls Try.prog 54 #[.pointer (some ⟨t, 0, none⟩), .int .i64 ma, .int .i64 le, v] w fun e w' => e = .returned (Rv.v ⟨4, T.n, le, ⟨#[]⟩, ⟨#[]⟩, none, 0, 0⟩) ∧ Fr [] w w' := by
  have mixed : Try.prog.follows .mixedOrders = true := by kernel_rfl
  obtain ⟨W, HW⟩ : ∃ W, Hid (w.alloc (.cells #[.int .u8 0, .int .i64 0, .int .i64 0, .string ⟨#[]⟩, .string ⟨#[]⟩, .bool false, .string ⟨#[]⟩, .string ⟨#[]⟩, .slice none 0 0] 55) = W) := ⟨_, rfl⟩
  have hA : Fr [] w W := by rw [← HW.out]; exact Fr.alloc [] w _
  have hB : W.heap[w.heap.size]? = some (.cells #[.int .u8 0, .int .i64 0, .int .i64 0, .string ⟨#[]⟩, .string ⟨#[]⟩, .bool false, .string ⟨#[]⟩, .string ⟨#[]⟩, .slice none 0 0] 55 (0, 0)) := by rw [← HW.out]; exact heap_alloc_new w _
  have hk1 := h.keep hA (by simp)
  have c0 := hk1.c0
  have c5 := hk1.c5
  have c6 := hk1.c6
  have c7 := hk1.c7
  rw [hk] at c5
  have hlt := h.lt
  have n1 : t ≠ w.heap.size := by omega
  have n2 : w.heap.size ≠ t := by omega
  have HB : Hid (∀ V, Fr [] W V → _) := fun V hf => req_fin (w := w) (W := V) ⟨4, T.n, le, ⟨#[]⟩, ⟨#[]⟩, none, 0, 0⟩ (hA.then hf) (hf.keep hB (by simp))
  obtain ⟨d0, d1, d2, d3, d4, d5, d6, d7, d8⟩ := rq_cells hB
  obtain ⟨z0, z1, z2, z3, z4, z5, z6, z7, z8⟩ := rq_frozen hB
  clear h hk hk1 hA hB
  obtain ⟨n, l, s, x, q, k, key, en, bg, ma0, so, sl, sc, ro, rl, rc, ak, po, pl, pc⟩ := T
  simp only at c0 c5 c6 c7 HB ⊢
  go_enter Try.func54, Try.ntmps54
  go_upto_region 1 with fail
  rw [HW.out]
  obtain ⟨b, hb⟩ : ∃ b, b = w.heap.size := ⟨_, rfl⟩
  rw [← hb] at d0 d1 d2 d3 d4 d5 d6 d7 d8 z0 z1 z2 z3 z4 z5 z6 z7 z8 n1 n2 ⊢
  have HBb : Hid (b = w.heap.size) := hb
  clear hb
  obtain ⟨q1, q2, q3⟩ := HB.out W (Fr.refl [] W)
  rw [← HBb.out] at q1 q2
  have HQ : Hid (_ ∧ _) := And.intro q1 q2
  clear q1 q2 q3 HB
  go_wp2
  refine bodyPost_ret (results_c_row rfl _ _ _ b _ rfl (load_req ⟨4, n, le, ⟨#[]⟩, ⟨#[]⟩, none, 0, 0⟩ HQ.out.1)) rfl ?_
  exact ⟨rfl, HQ.out.2⟩
set_option maxHeartbeats 4000000 in
set_option maxRecDepth 100000 in
theorem yreq4 {w : World} {t : Nat} {T : Yt} (h : YtM w t T) (hk : T.k = 4) (ma le : Int) (ao : Option Addr) (L cap : Nat) (ns : List Int) (hI : IRs w ao ns) (hL : L = ns.length) (hc : L ≤ 131072) :
    Calls Try.prog 54 #[.pointer (some ⟨t, 0, none⟩), .int .i64 ma, .int .i64 le, .slice ao L cap] w fun e w' => ∃ ro rc, e = .returned (Rv.v ⟨5, T.n, ma, ⟨#[]⟩, ⟨#[]⟩, ro, L, rc⟩) ∧ w'.ownsRow w.heap.size 3 1 (.slice ro L rc) L (intsC ns) ∧ Fr [] w w' := by
  have mixed : Try.prog.follows .mixedOrders = true := by kernel_rfl
  obtain ⟨W, HW⟩ : ∃ W, Hid (w.alloc (.cells #[.int .u8 0, .int .i64 0, .int .i64 0, .string ⟨#[]⟩, .string ⟨#[]⟩, .bool false, .string ⟨#[]⟩, .string ⟨#[]⟩, .slice none 0 0] 55) = W) := ⟨_, rfl⟩
  have hA : Fr [] w W := by rw [← HW.out]; exact Fr.alloc [] w _
  have hB : W.heap[w.heap.size]? = some (.cells #[.int .u8 0, .int .i64 0, .int .i64 0, .string ⟨#[]⟩, .string ⟨#[]⟩, .bool false, .string ⟨#[]⟩, .string ⟨#[]⟩, .slice none 0 0] 55 (0, 0)) := by rw [← HW.out]; exact heap_alloc_new w _
  have hk1 := h.keep hA (by simp)
  have c0 := hk1.c0
  have c5 := hk1.c5
  rw [hk] at c5
  have hlt := h.lt
  have HI : Hid (∀ V, Fr [] W V → IRs V ao ns) := fun V hf => hI.keep (hA.then hf)
  have HL : Hid (L = ns.length) := hL
  have HB : Hid (∀ V ro rc w2, Fr [] W V → w2.ownsRow V.heap.size 3 1 (.slice ro L rc) L (intsC ns) → Fr [] V w2 → (w2.cell? ⟨t, 0, none⟩ = some (.int .i64 T.n) ∧ ((w2.cell? ⟨w.heap.size, 0, none⟩ = some (.int .u8 0) ∧ w2.cell? ⟨w.heap.size, 1, none⟩ = some (.int .i64 0) ∧ w2.cell? ⟨w.heap.size, 2, none⟩ = some (.int .i64 0) ∧ w2.cell? ⟨w.heap.size, 3, none⟩ = some (.string ⟨#[]⟩) ∧ w2.cell? ⟨w.heap.size, 4, none⟩ = some (.string ⟨#[]⟩) ∧ w2.cell? ⟨w.heap.size, 5, none⟩ = some (.bool false) ∧ w2.cell? ⟨w.heap.size, 6, none⟩ = some (.string ⟨#[]⟩) ∧ w2.cell? ⟨w.heap.size, 7, none⟩ = some (.string ⟨#[]⟩) ∧ w2.cell? ⟨w.heap.size, 8, none⟩ = some (.slice none 0 0)) ∧ (w2.frozen? ⟨w.heap.size, 0, none⟩ = false ∧ w2.frozen? ⟨w.heap.size, 1, none⟩ = false ∧ w2.frozen? ⟨w.heap.size, 2, none⟩ = false ∧ w2.frozen? ⟨w.heap.size, 3, none⟩ = false ∧ w2.frozen? ⟨w.heap.size, 4, none⟩ = false ∧ w2.frozen? ⟨w.heap.size, 5, none⟩ = false ∧ w2.frozen? ⟨w.heap.size, 6, none⟩ = false ∧ w2.frozen? ⟨w.heap.size, 7, none⟩ = false ∧ w2.frozen? ⟨w.heap.size, 8, none⟩ = false))) ∧ Hid (∃ w3, w3 = (((((((((w2.setCell ⟨w.heap.size, 0, none⟩ (.int .u8 5)).setCell ⟨w.heap.size, 1, none⟩ (.int .i64 T.n)).setCell ⟨w.heap.size, 2, none⟩ (.int .i64 ma)).setCell ⟨w.heap.size, 3, none⟩ (.string ⟨#[]⟩)).setCell ⟨w.heap.size, 4, none⟩ (.string ⟨#[]⟩)).setCell ⟨w.heap.size, 5, none⟩ (.bool false)).setCell ⟨w.heap.size, 6, none⟩ (.string ⟨#[]⟩)).setCell ⟨w.heap.size, 7, none⟩ (.string ⟨#[]⟩)).setCell ⟨w.heap.size, 8, none⟩ (.slice ro L rc)) ∧ w3.heap[w.heap.size]? = some (.cells (Rv.a ⟨5, T.n, ma, ⟨#[]⟩, ⟨#[]⟩, ro, L, rc⟩) 55 (0, 0)) ∧ w3.ownsRow w.heap.size 3 1 (.slice ro L rc) L (intsC ns) ∧ Fr [] w w3)) := fun V ro rc w2 hV hO hf2 => by
    have hB2 := (hV.then hf2).keep hB (by simp)
    obtain ⟨q1, q2, q3⟩ := req_fin (w := w) (W := w2) ⟨5, T.n, ma, ⟨#[]⟩, ⟨#[]⟩, ro, L, rc⟩ ((hA.then hV).then hf2) hB2
    refine ⟨⟨(h.keep ((hA.then hV).then hf2) (by simp)).c0, rq_cells hB2, rq_frozen hB2⟩, ⟨_, rfl, q1, own_base (owns_keepB hO q3 (fun k hk hm => ?_)) (hA.then hV).size, q2⟩⟩
    have h1 := (owns_cells hO hk).1
    have h2 := hV.size
    have h3 := lt_of_block hB
    simp at hm
    omega
  clear h hk hk1 hA hB hI hL
  obtain ⟨n, l, s, x, q, k, key, en, bg, ma0, so, sl, sc, ro0, rl, rc0, ak, po, pl, pc⟩ := T
  simp only at c0 c5 HB ⊢
  go_enter Try.func54, Try.ntmps54
  go_upto_region 1 with fail
  rw [HW.out]
  obtain ⟨b, hb⟩ : ∃ b, b = w.heap.size := ⟨_, rfl⟩
  rw [← hb] at HB ⊢
  have HBb : Hid (b = w.heap.size) := hb
  clear HW hb
  go_wp2_with fail
  go_region_law (first
    | (refine step_allI _ (by rfl) _ _ (by rfl) (by rfl) ao L cap ns (by rfl) (HI.out _ (Fr.drew _ _)) HL.out hc ?_; intro ro rc w2 hO2 hf2; obtain ⟨⟨e0, ⟨d0, d1, d2, d3, d4, d5, d6, d7, d8⟩, ⟨z0, z1, z2, z3, z4, z5, z6, z7, z8⟩⟩, HR4⟩ := HB.out _ ro rc w2 (Fr.drew _ _) hO2 hf2))
  all_goals
    clear HB HI e0 d0 d1 d2 d3 d4 d5 d6 d7 d8 z0 z1 z2 z3 z4 z5 z6 z7 z8 c0 c5 hO2 hf2
    go_wp2
    obtain ⟨w3, e3, q1, q2, q3⟩ := HR4.out
    rw [← e3]
    rw [HBb.out] at q2
    refine bodyPost_ret (results_c_row rfl _ _ _ b _ rfl (load_req ⟨5, n, ma, ⟨#[]⟩, ⟨#[]⟩, ro, L, rc⟩ q1)) rfl ?_
    exact ⟨ro, rc, rfl, q2, q3⟩
end Go.Proofs.Ytpdkdgmaofhlkaa
