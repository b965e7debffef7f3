/- Events in memory: cells, slices that read as a list, events that came in; what == says of two. Conditions as each lemma names them. -/
import Derived.Test.YtfhfjplhfjlpaaaDoorCi13
import Derived.Deep.Slices
import Derived.SizedLaws
import Derived.Deep.RegionWith
import Derived.Deep.LoopGhost
import Derived.Laws.StructEq
import Derived.Deep.CutRange
import Derived.Deep.RegionHeld3
import Derived.Deep.RegionLaw
import Derived.Laws.MakeOwn
import Derived.OwnWalk
namespace Go.Proofs.YtfhfjplhfjlpaaaDoor
open Go.ChangeShapes Go.WideShapes Go.ChangeAt Go.RowKit Go.Lib
set_option linter.unusedVariables false
set_option linter.unusedSimpArgs false

/-- An event: task, kind, number, shard, count, mark. -/
structure Ev where
  t : Int
  k : Int
  n : Int
  s : Int
  c : Int
  m : Int
def Ev.no : Ev := ⟨0, 0, 0, 0, 0, 0⟩
def evA (t k n s c m : Int) : Array Value := #[.int .i64 t, .int .u8 k, .int .i64 n, .int .i64 s, .int .i64 c, .int .i64 m]
def Ev.v (e : Ev) : Value := .agg (evA e.t e.k e.n e.s e.c e.m)
theorem load_evt {w : World} {g : Nat} {t k n s c m : Int} (h : w.heap[g]? = some (.cells (evA t k n s c m) 54 (0, 0))) : (loadVar 54 ⟨g, 0, none⟩).run Tryd.prog w = .ok (.agg (evA t k n s c m)) w :=
  run_loadVar_row (P := Tryd.prog) _ g _ 54 _ _ (.struct (Tryd.prog.fieldsOf 54)) h (by kernel_rfl) rfl (by kernel_rfl)
theorem evt_cells {w : World} {g : Nat} {t k n s c m : Int} (h : w.heap[g]? = some (.cells (evA t k n s c m) 54 (0, 0))) : w.cell? ⟨g, 0, none⟩ = some (.int .i64 t) ∧ w.cell? ⟨g, 1, none⟩ = some (.int .u8 k) ∧ w.cell? ⟨g, 2, none⟩ = some (.int .i64 n) ∧ w.cell? ⟨g, 3, none⟩ = some (.int .i64 s) ∧ w.cell? ⟨g, 4, none⟩ = some (.int .i64 c) ∧ w.cell? ⟨g, 5, none⟩ = some (.int .i64 m) :=
  ⟨by rw [cell_of_row _ _ _ _ _ _ h]; rfl, by rw [cell_of_row _ _ _ _ _ _ h]; rfl, by rw [cell_of_row _ _ _ _ _ _ h]; rfl, by rw [cell_of_row _ _ _ _ _ _ h]; rfl, by rw [cell_of_row _ _ _ _ _ _ h]; rfl, by rw [cell_of_row _ _ _ _ _ _ h]; rfl⟩
theorem wpList_storeRow {w : World} {ops : Array Oper} {rest : List Oper} {o : Oper} {a : Act} {Q : Exit → Act → World → Prop} (hgd : o.guard = none) (ty : TypeId) (x y : Operand) (ho : o.op = .store ty x y)
    (g : Nat) (cells : Array Value) (hx : a.eval x = .pointer (some ⟨g, 0, none⟩)) (hy : a.eval y = .agg cells)
    (t : TypeId) (old : Array Value) (hg : w.heap[g]? = some (.cells old t (0, 0))) (hi : (Tryd.prog.info? ty).map (·.size) = some cells.size)
    (hold : old.size = cells.size) (h1 : cells.all (·.oneCell') = true)
    (h : ∀ w', Hid (w'.heap[g]? = some (.cells cells t (0, 0))) → Fr [g] w w' → wpList Tryd.prog ops Q rest (a.put o.dst undef) w') : wpList Tryd.prog ops Q (o :: rest) a w :=
  wpList_store_row hgd ty x y ho g cells hx hy t old hg hi hold h1 (h _ (setRow_heap w g _ _ t _ hg) (Fr.setRow _ _ _))
theorem wpList_storeEv {w : World} {ops : Array Oper} {rest : List Oper} {o : Oper} {a : Act} {Q : Exit → Act → World → Prop} (hgd : o.guard = none) (x y : Operand) (ho : o.op = .store 54 x y)
    (g : Nat) (t k n s c m : Int) (hx : a.eval x = .pointer (some ⟨g, 0, none⟩)) (hy : a.eval y = .agg #[.int .i64 t, .int .u8 k, .int .i64 n, .int .i64 s, .int .i64 c, .int .i64 m])
    (t' k' n' s' c' m' : Int) (hg : w.heap[g]? = some (.cells (evA t' k' n' s' c' m') 54 (0, 0)))
    (h : ∀ w', Hid (w'.heap[g]? = some (.cells (evA t k n s c m) 54 (0, 0))) → Fr [g] w w' → wpList Tryd.prog ops Q rest (a.put o.dst undef) w') : wpList Tryd.prog ops Q (o :: rest) a w :=
  wpList_storeRow hgd 54 x y ho g (evA t k n s c m) hx hy 54 _ hg (by kernel_rfl) rfl (by simp [evA, Value.oneCell']) h
/-- An event lies at o in block b. -/
structure EAt (w : World) (b o : Nat) (x : Ev) : Prop where
  c0 : w.cell? ⟨b, o, none⟩ = some (.int .i64 x.t)
  c1 : w.cell? ⟨b, o + 1, none⟩ = some (.int .u8 x.k)
  c2 : w.cell? ⟨b, o + 2, none⟩ = some (.int .i64 x.n)
  c3 : w.cell? ⟨b, o + 3, none⟩ = some (.int .i64 x.s)
  c4 : w.cell? ⟨b, o + 4, none⟩ = some (.int .i64 x.c)
  c5 : w.cell? ⟨b, o + 5, none⟩ = some (.int .i64 x.m)
/-- What every event is. -/
structure EEach (x : Ev) : Prop where
  t : I6 x.t
  k : 0 ≤ x.k ∧ x.k ≤ 255
  n : I6 x.n
  s : I6 x.s
  c : I6 x.c
  m : I6 x.m
theorem EEach.no : EEach Ev.no := ⟨by simp [I6, Ev.no], by simp [Ev.no], by simp [I6, Ev.no], by simp [I6, Ev.no], by simp [I6, Ev.no], by simp [I6, Ev.no]⟩
/-- The slice at ao reads as the events es. -/
structure ERs (w : World) (ao : Option Addr) (es : List Ev) : Prop where
  lies : 0 < es.length → ∃ b off, ao = some ⟨b, off, none⟩ ∧ b < w.heap.size ∧ ∀ i, i < es.length → EAt w b (off + i * 6) (es.getD i Ev.no)
  few : es.length ≤ 4398046511104
  each : ∀ x ∈ es, EEach x
theorem ERs.nil (w : World) (ao : Option Addr) : ERs w ao [] := ⟨fun h => by simp at h, by simp, by simp⟩
theorem ERs.keepS {S : List Nat} {w w' : World} {ao : Option Addr} {es : List Ev} (h : ERs w ao es) (hf : Fr S w w') (hn : 0 < es.length → ∀ a, ao = some a → a.block ∉ S) : ERs w' ao es := by
  refine ⟨fun h0 => ?_, h.few, h.each⟩
  obtain ⟨b, off, e, hb, hc⟩ := h.lies h0
  have hk : ∀ o, w'.cell? ⟨b, o, none⟩ = w.cell? ⟨b, o, none⟩ := fun o => World.cell?_of_block (hf.block b hb (hn h0 _ e))
  exact ⟨b, off, e, Nat.lt_of_lt_of_le hb hf.size, fun i hi => ⟨(hk _).trans (hc i hi).c0, (hk _).trans (hc i hi).c1, (hk _).trans (hc i hi).c2, (hk _).trans (hc i hi).c3, (hk _).trans (hc i hi).c4, (hk _).trans (hc i hi).c5⟩⟩
theorem ERs.keep {w w' : World} {ao : Option Addr} {es : List Ev} (h : ERs w ao es) (hf : Fr [] w w') : ERs w' ao es := h.keepS hf (by simp)
theorem egetD_mem (es : List Ev) (i : Nat) (h : i < es.length) : es.getD i Ev.no ∈ es := by simp [List.getD, h]
theorem etake_snoc (es : List Ev) (i : Nat) (h : i < es.length) : es.take (i + 1) = es.take i ++ [es.getD i Ev.no] := by
  rw [List.take_add_one]
  simp [List.getD, h]
theorem edrop_cons (es : List Ev) (i : Nat) (h : i < es.length) : es = es.take i ++ es.getD i Ev.no :: es.drop (i + 1) := by
  rw [show es.getD i Ev.no = es[i] by simp [List.getD, h], ← List.drop_eq_getElem_cons h, List.take_append_drop]
/-- The first ones of a row. -/
theorem ERs.take {w : World} {ao : Option Addr} {es : List Ev} (h : ERs w ao es) (j : Nat) : ERs w ao (es.take j) := by
  refine ⟨fun h0 => ?_, ?_, fun x hx => h.each x (List.mem_of_mem_take hx)⟩
  · simp only [List.length_take] at h0
    obtain ⟨b, off, e, hb, hc⟩ := h.lies (by omega)
    refine ⟨b, off, e, hb, fun i hi => ?_⟩
    simp only [List.length_take] at hi
    rw [show (es.take j).getD i Ev.no = es.getD i Ev.no by simp [List.getD, List.getElem?_take_of_lt (show i < j by omega)]]
    exact hc i (by omega)
  · have := h.few
    simp only [List.length_take]
    omega

section
variable {H : Type} {enc : TypeId × Value → H}
theorem Tryd.undEvs' : Tryd.prog.underlying 24 = some (.slice 54) := by kernel_rfl
theorem Tryd.cellsEvt : Tryd.prog.cellsOf 54 = 6 := by kernel_rfl
theorem Tryd.evtFields : (match Tryd.prog.underlying 54 with | some (.struct fs) => fs.toList.map (fun f => (f.type, f.offset)) | _ => []) = [(3, 0), (52, 1), (3, 2), (3, 3), (3, 4), (3, 5)] := by kernel_rfl
theorem Tryd.eundI : Tryd.prog.underlying 3 = some (.int .i64) := by kernel_rfl
theorem Tryd.eundK : Tryd.prog.underlying 52 = some (.int .u8) := by kernel_rfl
theorem Tryd.ecI : Tryd.prog.cellsOf 3 = 1 := by kernel_rfl
theorem Tryd.ecK : Tryd.prog.cellsOf 52 = 1 := by kernel_rfl
set_option maxRecDepth 100000 in
theorem evt_open {w : World} {base : Nat} {spare : Nat → Bool} {held : Bool} {fuel : Nat} {cs : List Value} {x : DataW H × List MemPlace} (h : DataW.trod enc Tryd.prog w base spare held fuel 54 cs = some x) :
    ∃ e : Ev, cs = [.int .i64 e.t, .int .u8 e.k, .int .i64 e.n, .int .i64 e.s, .int .i64 e.c, .int .i64 e.m] ∧ EEach e := by
  have hF := Tryd.evtFields
  cases hu : Tryd.prog.underlying 54 with
  | none => rw [hu] at hF; simp at hF
  | some u =>
    rw [hu] at hF
    cases u with
    | struct fs =>
      simp only at hF
      obtain ⟨ys, n, _, hx, hlen, hys, hf⟩ := DataW.trod_struct hu h
      rw [Tryd.cellsEvt] at hlen
      match cs, hlen with
      | [v0, v1, v2, v3, v4, v5], _ =>
        have hl6 : fs.toList.length = 6 := by have := congrArg List.length hF; simpa using this
        obtain ⟨l, hl⟩ : ∃ l, l = fs.toList := ⟨_, rfl⟩
        rw [← hl] at hF hl6
        match l, hl6 with
        | [f0, f1, f2, f3, f4, f5], _ =>
          simp only [List.map_cons, List.map_nil, List.cons.injEq, Prod.mk.injEq, and_true] at hF
          obtain ⟨⟨t0, o0⟩, ⟨t1, o1⟩, ⟨t2, o2⟩, ⟨t3, o3⟩, ⟨t4, o4⟩, ⟨t5, o5⟩⟩ := hF
          have g : ∀ (i : Nat) (f : Field), [f0, f1, f2, f3, f4, f5][i]? = some f → fs[i]? = some f := by
            intro i f hi
            rw [hl] at hi
            simpa using hi
          have r0 := hf 0 f0 (g 0 f0 rfl)
          have r1 := hf 1 f1 (g 1 f1 rfl)
          have r2 := hf 2 f2 (g 2 f2 rfl)
          have r3 := hf 3 f3 (g 3 f3 rfl)
          have r4 := hf 4 f4 (g 4 f4 rfl)
          have r5 := hf 5 f5 (g 5 f5 rfl)
          rw [t0, o0, Tryd.ecI] at r0
          rw [t1, o1, Tryd.ecK] at r1
          rw [t2, o2, Tryd.ecI] at r2
          rw [t3, o3, Tryd.ecI] at r3
          rw [t4, o4, Tryd.ecI] at r4
          rw [t5, o5, Tryd.ecI] at r5
          simp only [List.drop_zero, List.drop_succ_cons, List.take_succ_cons, List.take_zero] at r0 r1 r2 r3 r4 r5
          have hy6 : ys.length = 6 := by rw [hys]; have := congrArg List.length hl; simpa using this.symm
          match ys, hy6 with
          | [y0, y1, y2, y3, y4, y5], _ =>
            simp only [List.getElem?_cons_zero, List.getElem?_cons_succ] at r0 r1 r2 r3 r4 r5
            obtain ⟨k0, e0, _, w0⟩ := DataW.trod_int Tryd.eundI r0
            obtain ⟨k1, e1, _, w1⟩ := DataW.trod_int Tryd.eundK r1
            obtain ⟨k2, e2, _, w2⟩ := DataW.trod_int Tryd.eundI r2
            obtain ⟨k3, e3, _, w3⟩ := DataW.trod_int Tryd.eundI r3
            obtain ⟨k4, e4, _, w4⟩ := DataW.trod_int Tryd.eundI r4
            obtain ⟨k5, e5, _, w5⟩ := DataW.trod_int Tryd.eundI r5
            simp only [List.cons.injEq, and_true] at e0 e1 e2 e3 e4 e5
            exact ⟨⟨k0, k1, k2, k3, k4, k5⟩, by rw [e0, e1, e2, e3, e4, e5], bounds_i64 w0, bounds_u8 w1, bounds_i64 w2, bounds_i64 w3, bounds_i64 w4, bounds_i64 w5⟩
    | _ => simp at hF
set_option maxRecDepth 100000 in
theorem evs_open {w : World} {fuel : Nat} {v : Value} {d : DataW H} {ps : List MemPlace} (h : DataW.trod enc Tryd.prog w 0 (fun _ => true) true fuel 24 [v] = some (d, ps)) (hsz : ∀ n ∈ d.weights Tryd.prog 24, n ≤ reachBytes) :
    ∃ ao L cap es, v = .slice ao L cap ∧ ERs w ao es ∧ L = es.length ∧ L ≤ cap ∧ cap * 48 ≤ 140737488355328 ∧ (∃ n ∈ d.weights Tryd.prog 24, n = cap * 48) ∨ v = .slice none 0 0 := by
  rcases Go.Deep.open_slice Tryd.undEvs' h with ⟨hcs, _⟩ | ⟨a, len, cap, m, n, D, Pl, hcs, hb, hl, hm, hmm, hx, hE⟩
  · simp only [List.cons.injEq, and_true] at hcs
    exact ⟨none, 0, 0, [], Or.inr hcs⟩
  · simp only [List.cons.injEq, and_true] at hcs
    simp only [if_true] at hmm
    subst hmm
    rw [Tryd.cellsEvt] at hE hx
    have hO : ∀ i, i < m → ∃ o : Ev, (w.cells? 0 (a.add (i * 6)) 6 = some [.int .i64 o.t, .int .u8 o.k, .int .i64 o.n, .int .i64 o.s, .int .i64 o.c, .int .i64 o.m]) ∧ EEach o := by
      intro i hi
      obtain ⟨cs', h1, h2⟩ := hE i hi
      obtain ⟨o, rfl, rest⟩ := evt_open h2
      exact ⟨o, h1, rest⟩
    haveI : Inhabited Ev := ⟨Ev.no⟩
    obtain ⟨F, hF⟩ := Go.Deep.choose_lt hO
    have hd : d = .slice ((List.range len).map D) ((List.range (m - len)).map fun j => D (len + j)) := by have := congrArg Prod.fst hx; simpa using this
    have hr := reachBytes_lt
    have hin : m * 48 ∈ d.weights Tryd.prog 24 := by
      rw [hd]
      simp only [DataW.weights, Tryd.undEvs', List.length_map, List.length_range]
      rw [show len + (m - len) = m by omega, show Tryd.prog.bytesOf 54 = 48 from by kernel_rfl]
      exact List.mem_cons_self
    have hm48 : m * 48 ≤ 140737488355328 := by have := hsz _ hin; omega
    refine ⟨some a, len, m, (List.range len).map F, Or.inl ⟨hcs, ⟨fun h0 => ?_, by simp; omega, ?_⟩, by simp, hl, hm48, _, hin, rfl⟩⟩
    rotate_left
    · intro o ho
      obtain ⟨i, hi, rfl⟩ := List.mem_map.1 ho
      have hi' : i < len := by simpa using hi
      exact (hF i (by omega)).2
    · simp only [List.length_map, List.length_range] at h0 ⊢
      have hc0 := (World.cells?_some (hF 0 (by omega)).1).2.2
      obtain ⟨b, off, spot⟩ := a
      have hspot : spot = none := by
        have := hc0 0 (by omega)
        simp at this
        simpa [Addr.add] using World.cell?_spot this
      subst hspot
      have hcell : ∀ i, i < len → ∀ j, j < 6 → w.cell? ⟨b, off + i * 6 + j, none⟩ = [Value.int .i64 (F i).t, .int .u8 (F i).k, .int .i64 (F i).n, .int .i64 (F i).s, .int .i64 (F i).c, .int .i64 (F i).m][j]? := by
        intro i hi j hj
        have := (World.cells?_some (hF i (by omega)).1).2.2 j hj
        rw [show ((⟨b, off, none⟩ : Addr).add (i * 6)).add j = ⟨b, off + i * 6 + j, none⟩ from by rw [Addr.add_lit, Addr.add_lit]] at this
        exact this
      refine ⟨b, off, rfl, World.block_lt_of_cell? w ⟨b, off + 0 * 6 + 0, none⟩ (by rw [hcell 0 (by omega) 0 (by omega)]; rfl), fun i hi => ?_⟩
      have e : ((List.range len).map F).getD i Ev.no = F i := by simp [List.getD, hi]
      rw [e]
      exact ⟨hcell i hi 0 (by omega), hcell i hi 1 (by omega), hcell i hi 2 (by omega), hcell i hi 3 (by omega), hcell i hi 4 (by omega), hcell i hi 5 (by omega)⟩
end
/-! ### Equality -/
theorem Tryd.undEvt : Tryd.prog.underlying 54 = some (.struct (Tryd.prog.fieldsOf 54)) := by kernel_rfl
theorem Tryd.heldEvt : Tryd.prog.stoodInHeld 54 = false := by kernel_rfl
theorem Tryd.guardEvt : Tryd.prog.eqGuardType Tryd.prog.depth 54 = false := by kernel_rfl
theorem Tryd.fieldsEvt : (Tryd.prog.fieldsOf 54).toList.map (fun f => (f.name == "_", f.type, f.offset)) = [(false, 3, 0), (false, 52, 1), (false, 3, 2), (false, 3, 3), (false, 3, 4), (false, 3, 5)] := by kernel_rfl
theorem epart_int (w : World) (cs : Array Value) (off : Nat) (v : Value) (h : cs[off]? = some v) : (part 3 cs off).run Tryd.prog w = .ok v w := by
  simp [part, isAgg, run_underlying Tryd.eundI, h, Sem.run_bind]
theorem epart_kd (w : World) (cs : Array Value) (off : Nat) (v : Value) (h : cs[off]? = some v) : (part 52 cs off).run Tryd.prog w = .ok v w := by
  simp [part, isAgg, run_underlying Tryd.eundK, h, Sem.run_bind]
theorem eeq_int (w : World) (a b : Int) : (Op.equalIn 9999 3 (.int .i64 a) (.int .i64 b)).run Tryd.prog w = .ok (a == b) w := run_equalIn_int w 9998 _ .i64 .i64 a b Tryd.eundI
theorem eeq_kd (w : World) (a b : Int) : (Op.equalIn 9999 52 (.int .u8 a) (.int .u8 b)).run Tryd.prog w = .ok (a == b) w := run_equalIn_int w 9998 _ .u8 .u8 a b Tryd.eundK
theorem estep_field {P : Program} {w : World} {A B : Sem Value} {E : Value → Value → Sem Bool} {K : Sem Bool} {a b : Value} {r : Bool} (hA : A.run P w = .ok a w) (hB : B.run P w = .ok b w) (hE : (E a b).run P w = .ok r w) :
    (do let a ← A; let b ← B; let r ← E a b; if (!r) = true then pure false else K : Sem Bool).run P w = if r = true then K.run P w else .ok false w := by
  simp only [Sem.run_bind, hA, hB, hE, Result.andThen_ok]
  cases r <;> simp
/-- Are two events the same? -/
def sameEv (x y : Ev) : Bool := x.t == y.t && (x.k == y.k && (x.n == y.n && (x.s == y.s && (x.c == y.c && x.m == y.m))))
theorem sameEv_iff (x y : Ev) : sameEv x y = true ↔ x = y := by
  obtain ⟨a0, a1, a2, a3, a4, a5⟩ := x
  obtain ⟨b0, b1, b2, b3, b4, b5⟩ := y
  simp only [sameEv, Bool.and_eq_true, beq_iff_eq, Ev.mk.injEq]
set_option maxRecDepth 100000 in
theorem ev_fields (w : World) (x y : Ev) : (Op.equalIn 10000 54 (.agg #[.int .i64 x.t, .int .u8 x.k, .int .i64 x.n, .int .i64 x.s, .int .i64 x.c, .int .i64 x.m]) (.agg #[.int .i64 y.t, .int .u8 y.k, .int .i64 y.n, .int .i64 y.s, .int .i64 y.c, .int .i64 y.m])).run Tryd.prog w = .ok (sameEv x y) w := by
  rw [run_equalIn_struct w 9999 _ _ _ Tryd.undEvt Tryd.heldEvt]
  have hF := Tryd.fieldsEvt
  obtain ⟨l, hl⟩ : ∃ l, l = (Tryd.prog.fieldsOf 54).toList := ⟨_, rfl⟩
  rw [← hl] at hF ⊢
  match l, hF with
  | [f0, f1, f2, f3, f4, f5], hF =>
    simp only [List.map_cons, List.map_nil, List.cons.injEq, Prod.mk.injEq, and_true] at hF
    obtain ⟨⟨n0, t0, o0⟩, ⟨n1, t1, o1⟩, ⟨n2, t2, o2⟩, ⟨n3, t3, o3⟩, ⟨n4, t4, o4⟩, ⟨n5, t5, o5⟩⟩ := hF
    have m0 : f0.name ≠ "_" := by simpa using n0
    have m1 : f1.name ≠ "_" := by simpa using n1
    have m2 : f2.name ≠ "_" := by simpa using n2
    have m3 : f3.name ≠ "_" := by simpa using n3
    have m4 : f4.name ≠ "_" := by simpa using n4
    have m5 : f5.name ≠ "_" := by simpa using n5
    simp only [Op.eqFields, if_pos m0, if_pos m1, if_pos m2, if_pos m3, if_pos m4, if_pos m5, t0, t1, t2, t3, t4, t5, o0, o1, o2, o3, o4, o5]
    rw [estep_field (epart_int w _ 0 _ rfl) (epart_int w _ 0 _ rfl) (eeq_int w x.t y.t)]
    rw [estep_field (epart_kd w _ 1 _ rfl) (epart_kd w _ 1 _ rfl) (eeq_kd w x.k y.k)]
    rw [estep_field (epart_int w _ 2 _ rfl) (epart_int w _ 2 _ rfl) (eeq_int w x.n y.n)]
    rw [estep_field (epart_int w _ 3 _ rfl) (epart_int w _ 3 _ rfl) (eeq_int w x.s y.s)]
    rw [estep_field (epart_int w _ 4 _ rfl) (epart_int w _ 4 _ rfl) (eeq_int w x.c y.c)]
    rw [estep_field (epart_int w _ 5 _ rfl) (epart_int w _ 5 _ rfl) (eeq_int w x.m y.m)]
    unfold sameEv
    cases (x.t == y.t) <;> cases (x.k == y.k) <;> cases (x.n == y.n) <;> cases (x.s == y.s) <;> cases (x.c == y.c) <;> cases (x.m == y.m) <;> simp
theorem ev_neq (w : World) (x y : Ev) : (binOp .neq 54 (.agg #[.int .i64 x.t, .int .u8 x.k, .int .i64 x.n, .int .i64 x.s, .int .i64 x.c, .int .i64 x.m]) (.agg #[.int .i64 y.t, .int .u8 y.k, .int .i64 y.n, .int .i64 y.s, .int .i64 y.c, .int .i64 y.m])).run Tryd.prog w = .ok (.bool (!sameEv x y)) w := by
  rw [run_neq_struct, ev_fields]
  rfl
end Go.Proofs.YtfhfjplhfjlpaaaDoor
