/- Texts of this claim laid together, one behind the other: contracts and plain lemmas; conditions as each names them. -/
import Derived.Test.YtaefninikmaiiaaGreatDoorGp1
import Derived.Deep.Slices
import Derived.SizedLaws
import Derived.Deep.RegionWith
import Derived.Deep.LoopGhost
import Derived.Laws.BitsAllLaws
import Derived.Laws.ShiftsVarLaws
import Derived.Laws.StructEq
import Derived.Laws.ResultCell
import Derived.Deep.RegionLaw
import Derived.Deep.RegionHeld3
import Derived.Deep.CutRange
/- Writes in memory: cells, slices of writes that read as a list, structs of a transaction. Conditions as each lemma names them. -/
namespace Go.Proofs.YtaefninikmaiiaaGreatDoor
open Go.ChangeShapes Go.WideShapes Go.ChangeAt Go.RowKit Go.Lib

def Wt.zero : Wt := ⟨noS, noS, false⟩
/-- A write's cells. -/
def wtC (x : Wt) : List Value := [.string x.key, .string x.val, .bool x.drop]
def wtsC : List Wt → List Value
  | [] => []
  | x :: r => wtC x ++ wtsC r
theorem wtsC_append (a b : List Wt) : wtsC (a ++ b) = wtsC a ++ wtsC b := by
  induction a with
  | nil => rfl
  | cons v r ih => simp [wtsC, ih]
theorem wtsC_length (a : List Wt) : (wtsC a).length = a.length * 3 := by
  induction a with
  | nil => rfl
  | cons v r ih => simp only [wtsC, wtC, List.length_append, List.length_cons, List.length_nil, ih]; omega
theorem wtsC_get (a : List Wt) (j c : Nat) (hj : j < a.length) (hc : c < 3) : (wtsC a)[j * 3 + c]? = (wtC (a.getD j Wt.zero))[c]? := by
  induction a generalizing j with
  | nil => simp at hj
  | cons v r ih =>
    cases j with
    | zero =>
      simp only [wtsC, Nat.zero_mul, Nat.zero_add]
      rw [List.getElem?_append_left (by simp [wtC]; omega)]
      simp
    | succ j =>
      simp only [wtsC]
      rw [List.getElem?_append_right (by simp [wtC]; omega)]
      have e : (j + 1) * 3 + c - (wtC v).length = j * 3 + c := by simp [wtC]; omega
      rw [e, ih j (by simpa using hj)]
      simp
theorem wtsC_oneCell (a : List Wt) : ∀ u ∈ wtsC a, u.oneCell' = true := by
  induction a with
  | nil => intro u hu; simp [wtsC] at hu
  | cons v r ih =>
    intro u hu
    rcases List.mem_append.1 hu with h | h
    · simp only [wtC, List.mem_cons, List.not_mem_nil, or_false] at h
      rcases h with rfl | rfl | rfl <;> rfl
    · exact ih u h

/-- A write lies at o in block b. -/
structure WAt (w : World) (b o : Nat) (x : Wt) : Prop where
  c0 : w.cell? ⟨b, o, none⟩ = some (.string x.key)
  c1 : w.cell? ⟨b, o + 1, none⟩ = some (.string x.val)
  c2 : w.cell? ⟨b, o + 2, none⟩ = some (.bool x.drop)
/-- The slice at ao reads as the writes ws. -/
structure WRs (w : World) (ao : Option Addr) (ws : List Wt) : Prop where
  lies : 0 < ws.length → ∃ b off, ao = some ⟨b, off, none⟩ ∧ b < w.heap.size ∧ ∀ i, i < ws.length → WAt w b (off + i * 3) (ws.getD i Wt.zero)
  few : ws.length ≤ 140737488355328
  each : ∀ x ∈ ws, x.key.size ≤ 140737488355328 ∧ x.val.size ≤ 140737488355328
theorem WRs.nil (w : World) (ao : Option Addr) : WRs w ao [] := ⟨fun h => by simp at h, by simp, by simp⟩
theorem WRs.keepS {S : List Nat} {w w' : World} {ao : Option Addr} {ws : List Wt} (h : WRs w ao ws) (hf : Fr S w w') (hn : 0 < ws.length → ∀ a, ao = some a → a.block ∉ S) : WRs w' ao ws := by
  refine ⟨fun h0 => ?_, h.few, h.each⟩
  obtain ⟨b, off, e, hb, hc⟩ := h.lies h0
  have hk : ∀ o, w'.cell? ⟨b, o, none⟩ = w.cell? ⟨b, o, none⟩ := fun o => World.cell?_of_block (hf.block b hb (hn h0 _ e))
  exact ⟨b, off, e, Nat.lt_of_lt_of_le hb hf.size, fun i hi => ⟨(hk _).trans (hc i hi).c0, (hk _).trans (hc i hi).c1, (hk _).trans (hc i hi).c2⟩⟩
theorem WRs.keep {w w' : World} {ao : Option Addr} {ws : List Wt} (h : WRs w ao ws) (hf : Fr [] w w') : WRs w' ao ws := h.keepS hf (by simp)
theorem WRs.of_row {w : World} {b : Nat} {ws : List Wt} {rest : List Value} {t : TypeId} {f : Nat × Nat} (h : w.heap[b]? = some (.cells (wtsC ws ++ rest).toArray t f)) (hl : ws.length ≤ 140737488355328) (he : ∀ x ∈ ws, x.key.size ≤ 140737488355328 ∧ x.val.size ≤ 140737488355328) : WRs w (some ⟨b, 0, none⟩) ws := by
  refine ⟨fun _ => ⟨b, 0, rfl, lt_of_block h, fun i hi => ?_⟩, hl, he⟩
  have key : ∀ c, c < 3 → w.cell? ⟨b, 0 + i * 3 + c, none⟩ = (wtC (ws.getD i Wt.zero))[c]? := by
    intro c hc
    rw [cell_of_row _ _ _ _ _ _ h, Nat.zero_add, ← wtsC_get ws i c hi hc]
    have hlt : i * 3 + c < (wtsC ws).length := by rw [wtsC_length]; omega
    simp [List.getElem?_append_left hlt]
  exact ⟨key 0 (by omega), key 1 (by omega), key 2 (by omega)⟩
theorem wgetD_mem (ws : List Wt) (i : Nat) (h : i < ws.length) : ws.getD i Wt.zero ∈ ws := by simp [List.getD, h]
theorem wtake_snoc (ws : List Wt) (i : Nat) (h : i < ws.length) : ws.take (i + 1) = ws.take i ++ [ws.getD i Wt.zero] := by
  rw [List.take_add_one]
  simp [List.getD, h]

/-- A transaction as a value. -/
def txV (n : Int) (ao : Option Addr) (L cap : Nat) : Value := .agg #[.int .i64 n, .slice ao L cap]

theorem tl_nil (s : ByteArray) : s.toList = [] ↔ s.size = 0 := by
  rw [ByteArray.toList_eq]
  constructor
  · intro h
    have h2 := congrArg List.length h
    simpa [Array.length_toList] using h2
  · intro h
    have h2 : s.data.toList.length = 0 := by rw [Array.length_toList]; exact h
    exact List.eq_nil_of_length_eq_zero h2
theorem tl_inj (a b : ByteArray) : a.toList = b.toList ↔ a = b := by
  rw [ByteArray.toList_eq, ByteArray.toList_eq]
  constructor
  · intro h
    exact bytes_inj h
  · rintro rfl
    rfl
theorem okW_iff (key val : ByteArray) (drop : Bool) : okW ⟨key, val, drop⟩ ↔ (¬ key.toList = []) ∧ (key.size : Int) ≤ 64 ∧ (val.size : Int) ≤ 1024 ∧ (drop = true → val.toList = []) := by
  unfold okW
  rw [tl_nil, tl_nil, ← noS_iff]
  simp only
  constructor
  · rintro ⟨h1, h2, h3, h4⟩
    exact ⟨by omega, by omega, by omega, h4⟩
  · rintro ⟨h1, h2, h3, h4⟩
    exact ⟨by omega, by omega, by omega, h4⟩
end Go.Proofs.YtaefninikmaiiaaGreatDoor
/- A transaction that came in: how it lies in memory. Conditions as each lemma names them. -/
namespace Go.Proofs.YtaefninikmaiiaaGreatDoor
open Go.ChangeShapes Go.WideShapes Go.ChangeAt Go.RowKit Go.Lib
set_option linter.unusedVariables false
section
variable {H : Type} {enc : TypeId × Value → H}
theorem weightsAll_mem {P : Program} {e : TypeId} : ∀ {ds : List (DataW H)} {d : DataW H}, d ∈ ds → ∀ n ∈ d.weights P e, n ∈ DataW.weightsAll P e ds
  | x :: r, d, hd, n, hn => by
    simp only [DataW.weightsAll, List.mem_append]
    rcases List.mem_cons.1 hd with rfl | hd
    · exact Or.inl hn
    · exact Or.inr (weightsAll_mem hd n hn)
theorem Tryz.undWs' : Tryz.prog.underlying 61 = some (.slice 124) := by kernel_rfl
theorem Tryz.cellsWt : Tryz.prog.cellsOf 124 = 3 := by kernel_rfl
theorem Tryz.wtFields : (match Tryz.prog.underlying 124 with | some (.struct fs) => fs.toList.map (fun f => (f.type, f.offset)) | _ => []) = [(9, 0), (9, 1), (4, 2)] := by kernel_rfl
theorem Tryz.cellsT : Tryz.prog.cellsOf 63 = 2 := by kernel_rfl
theorem Tryz.tFields : (match Tryz.prog.underlying 63 with | some (.struct fs) => fs.toList.map (fun f => (f.type, f.offset)) | _ => []) = [(3, 0), (61, 1)] := by kernel_rfl
theorem Tryz.undI : Tryz.prog.underlying 3 = some (.int .i64) := by kernel_rfl
theorem Tryz.undBl : Tryz.prog.underlying 4 = some .bool := by kernel_rfl
theorem Tryz.cBl : Tryz.prog.cellsOf 4 = 1 := by kernel_rfl
theorem Tryz.cI : Tryz.prog.cellsOf 3 = 1 := by kernel_rfl
theorem Tryz.cS : Tryz.prog.cellsOf 9 = 1 := by kernel_rfl
theorem Tryz.cWs : Tryz.prog.cellsOf 61 = 1 := by kernel_rfl
set_option maxRecDepth 100000 in
theorem wt_open {w : World} {base : Nat} {spare : Nat → Bool} {held : Bool} {fuel : Nat} {cs : List Value} {x : DataW H × List MemPlace} (h : DataW.trod enc Tryz.prog w base spare held fuel 124 cs = some x) :
    ∃ v : Wt, cs = [.string v.key, .string v.val, .bool v.drop] ∧ v.key.size ∈ x.1.weights Tryz.prog 124 ∧ v.val.size ∈ x.1.weights Tryz.prog 124 := by
  have hF := Tryz.wtFields
  cases hu : Tryz.prog.underlying 124 with
  | none => rw [hu] at hF; simp at hF
  | some u =>
    rw [hu] at hF
    cases u with
    | struct fs =>
      simp only at hF
      obtain ⟨ys, n, _, hx, hlen, hys, hf⟩ := DataW.trod_struct hu h
      rw [Tryz.cellsWt] at hlen
      match cs, hlen with
      | [v0, v1, v2], _ =>
        have hl3 : fs.toList.length = 3 := by have := congrArg List.length hF; simpa using this
        obtain ⟨l, hl⟩ : ∃ l, l = fs.toList := ⟨_, rfl⟩
        rw [← hl] at hF hl3
        match l, hl3 with
        | [f0, f1, f2], _ =>
          simp only [List.map_cons, List.map_nil, List.cons.injEq, Prod.mk.injEq, and_true] at hF
          obtain ⟨⟨t0, o0⟩, ⟨t1, o1⟩, ⟨t2, o2⟩⟩ := hF
          have g : ∀ (i : Nat) (f : Field), [f0, f1, f2][i]? = some f → fs[i]? = some f := by
            intro i f hi
            rw [hl] at hi
            simpa using hi
          have r0 := hf 0 f0 (g 0 f0 rfl)
          have r1 := hf 1 f1 (g 1 f1 rfl)
          have r2 := hf 2 f2 (g 2 f2 rfl)
          rw [t0, o0, Tryz.cS] at r0
          rw [t1, o1, Tryz.cS] at r1
          rw [t2, o2, Tryz.cBl] at r2
          simp only [List.drop_zero, List.drop_succ_cons, List.take_succ_cons, List.take_zero] at r0 r1 r2
          have hy3 : ys.length = 3 := by rw [hys]; have := congrArg List.length hl; simpa using this.symm
          match ys, hy3 with
          | [y0, y1, y2], _ =>
            simp only [List.getElem?_cons_zero, List.getElem?_cons_succ] at r0 r1 r2
            obtain ⟨s0, e0, x0, _⟩ := DataW.trod_string Tryz.undStr r0
            obtain ⟨s1, e1, x1, _⟩ := DataW.trod_string Tryz.undStr r1
            obtain ⟨b2, e2, _⟩ := DataW.trod_bool Tryz.undBl r2
            simp only [List.cons.injEq, and_true] at e0 e1 e2
            have hty : fs.toList.map (·.type) = [9, 9, 4] := by rw [← hl]; simp [t0, t1, t2]
            refine ⟨⟨s0, s1, b2⟩, by rw [e0, e1, e2], ?_, ?_⟩
            · rw [hx]
              simp only [DataW.weights, hu]
              rw [hty]
              refine DataW.weights_mem_each (j := 0) (t := 9) (d := y0.1) rfl rfl _ ?_
              rw [x0]
              simp only [DataW.weights, List.mem_singleton]
              show s0.data.size = _
              simp
            · rw [hx]
              simp only [DataW.weights, hu]
              rw [hty]
              refine DataW.weights_mem_each (j := 1) (t := 9) (d := y1.1) rfl rfl _ ?_
              rw [x1]
              simp only [DataW.weights, List.mem_singleton]
              show s1.data.size = _
              simp
    | _ => simp at hF
set_option maxRecDepth 100000 in
theorem ws_open {w : World} {fuel : Nat} {v : Value} {d : DataW H} {ps : List MemPlace} (h : DataW.trod enc Tryz.prog w 0 (fun _ => true) true fuel 61 [v] = some (d, ps)) (hsz : ∀ n ∈ d.weights Tryz.prog 61, n ≤ reachBytes) :
    ∃ ao L cap ws, v = .slice ao L cap ∧ WRs w ao ws ∧ L = ws.length := by
  rcases Go.Deep.open_slice Tryz.undWs' h with ⟨hcs, _⟩ | ⟨a, len, cap, m, n, D, Pl, hcs, hb, hl, hm, hmm, hx, hE⟩
  · simp only [List.cons.injEq, and_true] at hcs
    exact ⟨none, 0, 0, [], hcs, WRs.nil _ _, rfl⟩
  · simp only [List.cons.injEq, and_true] at hcs
    simp only [if_true] at hmm
    subst hmm
    rw [Tryz.cellsWt] at hE hx
    have hO : ∀ i, i < m → ∃ o : Wt, (w.cells? 0 (a.add (i * 3)) 3 = some [.string o.key, .string o.val, .bool o.drop]) ∧ o.key.size ∈ (D i).weights Tryz.prog 124 ∧ o.val.size ∈ (D i).weights Tryz.prog 124 := by
      intro i hi
      obtain ⟨cs', h1, h2⟩ := hE i hi
      obtain ⟨o, rfl, rest⟩ := wt_open h2
      exact ⟨o, h1, rest⟩
    haveI : Inhabited Wt := ⟨Wt.zero⟩
    obtain ⟨F, hF⟩ := Go.Deep.choose_lt hO
    have hd : d = .slice ((List.range len).map D) ((List.range (m - len)).map fun j => D (len + j)) := by have := congrArg Prod.fst hx; simpa using this
    have hr := reachBytes_lt
    have hlen : len ≤ 140737488355328 := by
      have hw : len * Tryz.prog.bytesOf 124 ≤ reachBytes := by
        refine Nat.le_trans (Nat.mul_le_mul_right _ hl) (hsz _ ?_)
        rw [hd]
        simp only [DataW.weights, Tryz.undWs', List.length_map, List.length_range]
        rw [show len + (m - len) = m by omega]
        exact List.mem_cons_self
      have hb40 : 1 ≤ Tryz.prog.bytesOf 124 := by
        rw [show Tryz.prog.bytesOf 124 = 40 from by kernel_rfl]
        decide
      have := Nat.le_mul_of_pos_right len hb40
      omega
    refine ⟨some a, len, m, (List.range len).map F, hcs, ⟨fun h0 => ?_, by simpa using hlen, ?_⟩, by simp⟩
    · simp only [List.length_map, List.length_range] at h0 ⊢
      have hc0 := (World.cells?_some (hF 0 (by omega)).1).2.2
      obtain ⟨b, off, spot⟩ := a
      have hspot : spot = none := by
        have := hc0 0 (by omega)
        simp at this
        simpa [Addr.add] using World.cell?_spot this
      subst hspot
      have hcell : ∀ i, i < len → ∀ j, j < 3 → w.cell? ⟨b, off + i * 3 + j, none⟩ = [Value.string (F i).key, .string (F i).val, .bool (F i).drop][j]? := by
        intro i hi j hj
        have := (World.cells?_some (hF i (by omega)).1).2.2 j hj
        rw [show ((⟨b, off, none⟩ : Addr).add (i * 3)).add j = ⟨b, off + i * 3 + j, none⟩ from by rw [Addr.add_lit, Addr.add_lit]] at this
        exact this
      refine ⟨b, off, rfl, World.block_lt_of_cell? w ⟨b, off + 0 * 3 + 0, none⟩ (by rw [hcell 0 (by omega) 0 (by omega)]; rfl), fun i hi => ?_⟩
      have e : ((List.range len).map F).getD i Wt.zero = F i := by simp [List.getD, hi]
      rw [e]
      exact ⟨hcell i hi 0 (by omega), hcell i hi 1 (by omega), hcell i hi 2 (by omega)⟩
    · intro o ho
      obtain ⟨i, hi, rfl⟩ := List.mem_map.1 ho
      have hi' : i < len := by simpa using hi
      have key : ∀ q ∈ (D i).weights Tryz.prog 124, q ≤ 140737488355328 := by
        intro q hq
        have : q ≤ reachBytes := by
          apply hsz
          rw [hd]
          simp only [DataW.weights, Tryz.undWs']
          refine List.mem_cons_of_mem _ (List.mem_append_left _ ?_)
          exact weightsAll_mem (List.mem_map.2 ⟨i, by simpa using hi', rfl⟩) _ hq
        omega
      exact ⟨key _ (hF i (by omega)).2.1, key _ (hF i (by omega)).2.2⟩
/-- The transaction that came in. -/
structure TArg (w : World) (n : Int) (ao : Option Addr) (L cap : Nat) (ws : List Wt) : Prop where
  rs : WRs w ao ws
  len : L = ws.length
  n0 : -9223372036854775808 ≤ n
  n1 : n ≤ 9223372036854775807
theorem TArg.keep {w w' : World} {n : Int} {ao : Option Addr} {L cap : Nat} {ws : List Wt} (h : TArg w n ao L cap ws) (hf : Fr [] w w') : TArg w' n ao L cap ws := { h with rs := h.rs.keep hf }
set_option maxRecDepth 100000 in
theorem tx_open {w : World} {fuel : Nat} {cs : List Value} {x : DataW H × List MemPlace} (h : DataW.trod enc Tryz.prog w 0 (fun _ => true) true fuel 63 cs = some x) (hsz : ∀ n ∈ x.1.weights Tryz.prog 63, n ≤ reachBytes) :
    ∃ n ao L cap ws, cs = [.int .i64 n, .slice ao L cap] ∧ TArg w n ao L cap ws := by
  have hF := Tryz.tFields
  cases hu : Tryz.prog.underlying 63 with
  | none => rw [hu] at hF; simp at hF
  | some u =>
    rw [hu] at hF
    cases u with
    | struct fs =>
      simp only at hF
      obtain ⟨ys, n, _, hx, hlen, hys, hf⟩ := DataW.trod_struct hu h
      rw [Tryz.cellsT] at hlen
      match cs, hlen with
      | [v0, v1], _ =>
        have hl2 : fs.toList.length = 2 := by have := congrArg List.length hF; simpa using this
        obtain ⟨l, hl⟩ : ∃ l, l = fs.toList := ⟨_, rfl⟩
        rw [← hl] at hF hl2
        match l, hl2 with
        | [f0, f1], _ =>
          simp only [List.map_cons, List.map_nil, List.cons.injEq, Prod.mk.injEq, and_true] at hF
          obtain ⟨⟨t0, o0⟩, ⟨t1, o1⟩⟩ := hF
          have g : ∀ (i : Nat) (f : Field), [f0, f1][i]? = some f → fs[i]? = some f := by
            intro i f hi
            rw [hl] at hi
            simpa using hi
          have r0 := hf 0 f0 (g 0 f0 rfl)
          have r1 := hf 1 f1 (g 1 f1 rfl)
          rw [t0, o0, Tryz.cI] at r0
          rw [t1, o1, Tryz.cWs] at r1
          simp only [List.drop_zero, List.drop_succ_cons, List.take_succ_cons, List.take_zero] at r0 r1
          have hy2 : ys.length = 2 := by rw [hys]; have := congrArg List.length hl; simpa using this.symm
          match ys, hy2 with
          | [y0, y1], _ =>
            simp only [List.getElem?_cons_zero, List.getElem?_cons_succ] at r0 r1
            obtain ⟨k, e0, _, w0⟩ := DataW.trod_int Tryz.undI r0
            have hty : fs.toList.map (·.type) = [3, 61] := by rw [← hl]; simp [t0, t1]
            obtain ⟨ao, L, cap, ws, e1, hW, hL⟩ := ws_open (d := y1.1) (ps := y1.2) r1 (by
              intro q hq
              apply hsz
              rw [hx]
              simp only [DataW.weights, hu]
              rw [hty]
              exact DataW.weights_mem_each (j := 1) (t := 61) (d := y1.1) rfl rfl _ hq)
            simp only [List.cons.injEq, and_true] at e0
            have b0 := bounds_i64 w0
            exact ⟨k, ao, L, cap, ws, by rw [e0, e1], hW, hL, b0.1, b0.2⟩
    | _ => simp at hF
end
end Go.Proofs.YtaefninikmaiiaaGreatDoor
/- The checksum as a function on numbers: one shift, eight shifts, a row of bytes; that it is linear, that no shift loses anything, and what one turned bit does. No conditions but those each lemma names. -/
namespace Go.Proofs.YtaefninikmaiiaaGreatDoor

/-- One step of the sum. -/
def sh (c : Nat) : Nat := if c % 2 = 1 then (c / 2) ^^^ 2197175160 else c / 2
def shN : Nat → Nat → Nat
  | 0, c => c
  | n + 1, c => shN n (sh c)
def stepB (c x : Nat) : Nat := shN 8 (c ^^^ x)
def runB (c : Nat) (xs : List Nat) : Nat := xs.foldl stepB c
def more (s : Nat) (xs : List Nat) : Nat := 4294967295 - runB (4294967295 - s) xs

theorem sh_zero : sh 0 = 0 := by decide
theorem sh_lt (c : Nat) (h : c < 4294967296) : sh c < 4294967296 := by
  unfold sh
  split
  · exact Nat.xor_lt_two_pow (n := 32) (by omega) (by decide)
  · omega
theorem div2_xor (a b : Nat) : (a ^^^ b) / 2 = a / 2 ^^^ b / 2 := by
  apply Nat.eq_of_testBit_eq
  intro i
  simp [Nat.testBit_div_two, Nat.testBit_xor]
theorem mod2_xor (a b : Nat) : (a ^^^ b) % 2 = (a % 2 + b % 2) % 2 := by
  have h : (a ^^^ b).testBit 0 = (a.testBit 0 ^^ b.testBit 0) := Nat.testBit_xor a b 0
  simp only [Nat.testBit_zero] at h
  have h1 := Nat.mod_two_eq_zero_or_one a
  have h2 := Nat.mod_two_eq_zero_or_one b
  have h3 := Nat.mod_two_eq_zero_or_one (a ^^^ b)
  rcases h1 with h1 | h1 <;> rcases h2 with h2 | h2 <;> rcases h3 with h3 | h3 <;> simp_all
theorem sh_xor (a b : Nat) : sh (a ^^^ b) = sh a ^^^ sh b := by
  unfold sh
  have hm := mod2_xor a b
  have hd := div2_xor a b
  rcases Nat.mod_two_eq_zero_or_one a with h1 | h1 <;> rcases Nat.mod_two_eq_zero_or_one b with h2 | h2 <;> rw [h1, h2] at hm <;> simp [h1, h2, hm, hd]
  · rw [Nat.xor_assoc]
  · rw [Nat.xor_assoc, Nat.xor_assoc, Nat.xor_comm (b / 2) 2197175160]
  · rw [Nat.xor_assoc, ← Nat.xor_assoc 2197175160 (b / 2) 2197175160, Nat.xor_comm 2197175160 (b / 2), Nat.xor_assoc (b / 2), Nat.xor_self, Nat.xor_zero]
theorem sh_inj (c : Nat) (h : c < 4294967296) (h0 : sh c = 0) : c = 0 := by
  unfold sh at h0
  split at h0
  · have e : c / 2 = 2197175160 := by
      have := congrArg (· ^^^ 2197175160) h0
      simpa [Nat.xor_assoc] using this
    omega
  · omega
theorem sh_double (k : Nat) : sh (2 * k) = k := by
  unfold sh
  rw [if_neg (by omega)]
  omega

theorem shN_zero (n : Nat) : shN n 0 = 0 := by
  induction n with
  | zero => rfl
  | succ n ih => rw [shN, sh_zero, ih]
theorem shN_lt (n c : Nat) (h : c < 4294967296) : shN n c < 4294967296 := by
  induction n generalizing c with
  | zero => exact h
  | succ n ih => exact ih _ (sh_lt c h)
theorem shN_xor (n a b : Nat) : shN n (a ^^^ b) = shN n a ^^^ shN n b := by
  induction n generalizing a b with
  | zero => rfl
  | succ n ih => rw [shN, sh_xor, ih]; rfl
theorem shN_inj (n c : Nat) (h : c < 4294967296) (h0 : shN n c = 0) : c = 0 := by
  induction n generalizing c with
  | zero => exact h0
  | succ n ih => exact sh_inj c h (ih _ (sh_lt c h) h0)
theorem shN_add (m n c : Nat) : shN (m + n) c = shN n (shN m c) := by
  induction m generalizing c with
  | zero => simp [shN]
  | succ m ih => rw [show m + 1 + n = (m + n) + 1 from by omega, shN, ih]; rfl
theorem shN_succ (n c : Nat) : shN (n + 1) c = sh (shN n c) := by
  rw [shN_add n 1 c]; rfl
theorem shN_pow (i k : Nat) : shN i (2 ^ i * k) = k := by
  induction i generalizing k with
  | zero => simp [shN]
  | succ i ih =>
    rw [shN, show 2 ^ (i + 1) * k = 2 * (2 ^ i * k) from by rw [Nat.pow_succ]; simp only [Nat.mul_comm, Nat.mul_left_comm], sh_double, ih]
theorem shN_bit (i n : Nat) (h : i ≤ n) : shN n (2 ^ i) = shN (n - i) 1 := by
  have e : n = i + (n - i) := by omega
  have := shN_add i (n - i) (2 ^ i * 1)
  rw [shN_pow, Nat.mul_one, ← e] at this
  exact this

theorem stepB_lt (c x : Nat) (h : c < 4294967296) (hx : x < 256) : stepB c x < 4294967296 :=
  shN_lt _ _ (Nat.xor_lt_two_pow (n := 32) h (by omega))
theorem runB_lt (c : Nat) (xs : List Nat) (h : c < 4294967296) (hx : ∀ x ∈ xs, x < 256) : runB c xs < 4294967296 := by
  induction xs generalizing c with
  | nil => exact h
  | cons x xs ih => exact ih _ (stepB_lt c x h (hx x (by simp))) (fun y hy => hx y (by simp [hy]))
theorem runB_append (c : Nat) (xs ys : List Nat) : runB c (xs ++ ys) = runB (runB c xs) ys := by simp [runB]
theorem runB_snoc (c : Nat) (xs : List Nat) (x : Nat) : runB c (xs ++ [x]) = stepB (runB c xs) x := by simp [runB]
theorem stepB_xor (c d x : Nat) : stepB (c ^^^ d) x = stepB c x ^^^ shN 8 d := by
  unfold stepB
  rw [← shN_xor, Nat.xor_assoc, Nat.xor_comm d x, ← Nat.xor_assoc]
theorem runB_xor (c d : Nat) (xs : List Nat) : runB (c ^^^ d) xs = runB c xs ^^^ shN (8 * xs.length) d := by
  induction xs generalizing c d with
  | nil => rfl
  | cons x xs ih =>
    show runB (stepB (c ^^^ d) x) xs = runB (stepB c x) xs ^^^ _
    rw [stepB_xor, ih, ← shN_add]
    congr 2
    simp [Nat.mul_add, Nat.add_comm]
/-- What turning bits of one byte does to the sum of all. -/
theorem runB_turn (c : Nat) (xs : List Nat) (j m : Nat) (hj : j < xs.length) :
    runB c (xs.set j (xs.getD j 0 ^^^ m)) = runB c xs ^^^ shN (8 * (xs.length - j)) m := by
  induction xs generalizing c j with
  | nil => simp at hj
  | cons x xs ih =>
    cases j with
    | zero =>
      show runB (stepB c (x ^^^ m)) xs = runB (stepB c x) xs ^^^ _
      have e : stepB c (x ^^^ m) = stepB c x ^^^ shN 8 m := by
        unfold stepB
        rw [← shN_xor, Nat.xor_assoc]
      rw [e, runB_xor, ← shN_add]
      congr 2
      simp [Nat.mul_add, Nat.add_comm]
    | succ j =>
      have := ih (stepB c x) j (by simpa using hj)
      show runB (stepB c x) (xs.set j (xs.getD j 0 ^^^ m)) = _
      rw [this]
      simp [runB]
/-- One turned bit, as part of a row of bits that begins at 'a'. -/
theorem runB_bit (c : Nat) (xs : List Nat) (a i : Nat) (h : a + i < 8 * xs.length) :
    runB c (xs.set ((a + i) / 8) (xs.getD ((a + i) / 8) 0 ^^^ 2 ^ ((a + i) % 8))) = runB c xs ^^^ shN (8 * xs.length - a) (2 ^ i) := by
  rw [runB_turn c xs _ _ (by omega), shN_bit _ _ (by omega), shN_bit i _ (by omega)]
  congr 2
  omega

/-- The bits that were turned so far (m), of those below i. -/
structure Turned (xs ys : List Nat) (a i m : Nat) : Prop where
  len : ys.length = xs.length
  low : ∀ y ∈ ys, y < 256
  most : m < 2 ^ i
  sum : ∀ c, runB c ys = runB c xs ^^^ shN (8 * xs.length - a) m
theorem Turned.start (xs : List Nat) (a : Nat) (h : ∀ x ∈ xs, x < 256) : Turned xs xs a 0 0 :=
  ⟨rfl, h, by simp, fun c => by rw [shN_zero, Nat.xor_zero]⟩
theorem Turned.stay {xs ys : List Nat} {a i m : Nat} (h : Turned xs ys a i m) : Turned xs ys a (i + 1) m :=
  ⟨h.len, h.low, by have := h.most; rw [Nat.pow_succ]; omega, h.sum⟩
theorem xor_join (i m : Nat) (h : m < 2 ^ i) : m ^^^ 2 ^ i = m + 2 ^ i := by
  have := Nat.two_pow_add_eq_or_of_lt (b := m) (i := i) h 1
  rw [Nat.mul_one] at this
  rw [Nat.add_comm m, this]
  apply Nat.eq_of_testBit_eq
  intro k
  rw [Nat.testBit_xor, Nat.testBit_or]
  by_cases hk : k < i
  · simp [show i ≠ k by omega]
  · rw [Nat.testBit_lt_two_pow (Nat.lt_of_lt_of_le h (Nat.pow_le_pow_right (by omega) (by omega)))]
    simp
theorem Turned.turn {xs ys : List Nat} {a i m : Nat} (h : Turned xs ys a i m) (hb : a + i < 8 * xs.length) :
    Turned xs (ys.set ((a + i) / 8) (ys.getD ((a + i) / 8) 0 ^^^ 2 ^ ((a + i) % 8))) a (i + 1) (m + 2 ^ i) := by
  have hl := h.len
  refine ⟨by simp [hl], ?_, by have := h.most; rw [Nat.pow_succ]; omega, fun c => ?_⟩
  · intro y hy
    rcases List.mem_or_eq_of_mem_set hy with hy | rfl
    · exact h.low y hy
    · refine Nat.xor_lt_two_pow (n := 8) ?_ ?_
      · have hj : (a + i) / 8 < ys.length := by omega
        have : ys.getD ((a + i) / 8) 0 = ys[(a + i) / 8] := by simp [List.getD, hj]
        rw [this]
        exact h.low _ (List.getElem_mem _)
      · exact Nat.pow_lt_pow_right (by omega) (by omega)
  · rw [runB_bit c ys a i (by omega), h.sum, hl, Nat.xor_assoc, ← shN_xor, xor_join i m h.most]
theorem xor_eq_self {a b : Nat} (h : a = a ^^^ b) : b = 0 := by
  have := congrArg (a ^^^ ·) h
  simp only [Nat.xor_self, ← Nat.xor_assoc, Nat.zero_xor] at this
  exact this.symm
theorem Turned.more_ne {xs ys : List Nat} {a m : Nat} (h : Turned xs ys a 32 m) (hx : ∀ x ∈ xs, x < 256) (hm : m ≠ 0) : more 0 ys ≠ more 0 xs := by
  intro e
  have e : 4294967295 - runB 4294967295 ys = 4294967295 - runB 4294967295 xs := e
  have h1 := runB_lt 4294967295 ys (by omega) h.low
  have h2 := runB_lt 4294967295 xs (by omega) hx
  have e2 : runB 4294967295 ys = runB 4294967295 xs := by omega
  rw [h.sum] at e2
  exact hm (shN_inj _ m h.most (xor_eq_self e2.symm))
theorem Turned.more_eq {xs ys : List Nat} {a i : Nat} (h : Turned xs ys a i 0) : more 0 ys = more 0 xs := by
  unfold more
  rw [h.sum, shN_zero, Nat.xor_zero]

/-- Eight shifts of a number: its upper bits move down, its lowest byte is looked up. -/
theorem stepB_look (c x : Nat) : stepB c x = (c / 256) ^^^ shN 8 ((c % 256) ^^^ x) := by
  have e : c = (2 ^ 8 * (c / 256)) ^^^ (c % 256) := by
    apply Nat.eq_of_testBit_eq
    intro i
    rw [Nat.testBit_xor, Nat.testBit_two_pow_mul, show (256 : Nat) = 2 ^ 8 from rfl, Nat.testBit_mod_two_pow, Nat.testBit_div_two_pow]
    by_cases hi : 8 ≤ i
    · simp [hi, show ¬ i < 8 by omega]
    · simp [hi, show i < 8 by omega]
  unfold stepB
  conv => lhs; rw [e]
  rw [Nat.xor_assoc, shN_xor, shN_pow]

theorem more_nil (s : Nat) (h : s < 4294967296) : more s [] = s := by unfold more runB; simp; omega
theorem more_append (s : Nat) (xs ys : List Nat) (h : s < 4294967296) (hx : ∀ x ∈ xs, x < 256) : more (more s xs) ys = more s (xs ++ ys) := by
  have := runB_lt (4294967295 - s) xs (by omega) hx
  unfold more
  rw [runB_append, show 4294967295 - (4294967295 - runB (4294967295 - s) xs) = runB (4294967295 - s) xs from by omega]
theorem more_lt (s : Nat) (xs : List Nat) : more s xs < 4294967296 := by unfold more; omega

/-- The table, as it is made. -/
def T1 : Nat → List Nat
  | 0 => List.replicate 256 0
  | i + 1 => (T1 i).set (128 / 2 ^ i) (shN (i + 1) 1)
def T2 : Nat → List Nat
  | 0 => T1 8
  | i + 1 => (T2 i).set i ((T2 i).getD (i &&& (i - 1)) 0 ^^^ (T2 i).getD (i - (i &&& (i - 1))) 0)
theorem T1_length (i : Nat) : (T1 i).length = 256 := by
  induction i with
  | zero => exact List.length_replicate
  | succ i ih => rw [T1, List.length_set, ih]
theorem T2_length (i : Nat) : (T2 i).length = 256 := by
  induction i with
  | zero => exact T1_length 8
  | succ i ih => rw [T2, List.length_set, ih]
def tab : List Nat := (List.range 256).map (shN 8)
def t2go : Nat → Nat → List Nat → List Nat
  | 0, _, l => l
  | n + 1, i, l => t2go n (i + 1) (l.set i (l.getD (i &&& (i - 1)) 0 ^^^ l.getD (i - (i &&& (i - 1))) 0))
theorem t2go_eq (n i : Nat) : t2go n i (T2 i) = T2 (i + n) := by
  induction n generalizing i with
  | zero => rfl
  | succ n ih =>
    show t2go n (i + 1) (T2 (i + 1)) = _
    rw [ih, show i + 1 + n = i + (n + 1) from by omega]
theorem tab_eq0 : t2go 256 0 (T1 8) = tab := by decide +kernel
theorem tab_eq : T2 256 = tab := by rw [← tab_eq0, show T1 8 = T2 0 from rfl, t2go_eq]
theorem tab_get (v : Nat) (h : v < 256) : tab.getD v 0 = shN 8 v := by simp [tab, List.getD, h]

/-- The hash of a key. -/
def stepH (h x : Nat) : Nat := ((h ^^^ x) * 16777619) % 4294967296
def hashOf (xs : List Nat) : Nat := xs.foldl stepH 2166136261
theorem foldl_snoc {α β : Type} (f : α → β → α) (a : α) (xs : List β) (x : β) : (xs ++ [x]).foldl f a = f (xs.foldl f a) x := by simp
theorem foldl_below {β : Type} (f : Nat → β → Nat) (B a : Nat) (xs : List β) (h : a < B) (hf : ∀ a x, f a x < B) : xs.foldl f a < B := by
  induction xs generalizing a with
  | nil => exact h
  | cons x l ih => exact ih _ (hf a x)
theorem hashOf_snoc (xs : List Nat) (x : Nat) : hashOf (xs ++ [x]) = stepH (hashOf xs) x := foldl_snoc stepH _ xs x
theorem stepH_lt (a x : Nat) : stepH a x < 4294967296 := Nat.mod_lt _ (by decide)
theorem hashOf_lt (xs : List Nat) : hashOf xs < 4294967296 := foldl_below stepH _ _ xs (by decide) stepH_lt
theorem alive_crc : more 0 [49, 50, 51, 52, 53, 54, 55, 56, 57] = 3808858755 := by decide +kernel
theorem alive_hash : hashOf [102, 111, 111, 98, 97, 114] = 3214735720 := by decide +kernel
end Go.Proofs.YtaefninikmaiiaaGreatDoor
/- A log as bytes and back, as plain functions on lists: what is told of any bytes, one form, cut logs. Plain lemmas. -/
namespace Go.Proofs.YtaefninikmaiiaaGreatDoor
open Go.ChangeShapes Go.WideShapes Go.ChangeAt Go.RowKit Go.Lib
set_option linter.unusedVariables false

/-- A transaction. -/
structure Tx where
  n : Int
  ws : List Wt
def Tx.zero : Tx := ⟨0, []⟩
def Tx.ok (t : Tx) : Prop := okT t.n t.ws

def crcN (ys : List Nat) : Nat := more 0 ys
theorem crcN_lt (ys : List Nat) : crcN ys < 4294967296 := more_lt 0 ys
/-- A record's bytes, of the transaction's. -/
def encB (ys : List Nat) : List Nat := enc ys.length ++ (ys ++ leB 4 (crcN ys))
def encR (t : Tx) : List Nat := encB (encT t.n.toNat t.ws)
def encL : List Tx → List Nat
  | [] => []
  | t :: r => encR t ++ encL r
theorem encL_append (a b : List Tx) : encL (a ++ b) = encL a ++ encL b := by
  induction a with
  | nil => rfl
  | cons t r ih => simp [encL, ih]
theorem encL_snoc (a : List Tx) (t : Tx) : encL (a ++ [t]) = encL a ++ encR t := by
  rw [encL_append]; simp [encL]
theorem encB_lt (ys : List Nat) (h : ∀ x ∈ ys, x < 256) : ∀ x ∈ encB ys, x < 256 := by
  intro x hx
  rcases List.mem_append.1 hx with h1 | h1
  · exact enc_lt _ x h1
  · rcases List.mem_append.1 h1 with h2 | h2
    · exact h x h2
    · exact leB_lt _ _ x h2
theorem encR_lt (t : Tx) : ∀ x ∈ encR t, x < 256 := encB_lt _ (encT_lt _ _)
theorem encL_lt (l : List Tx) : ∀ x ∈ encL l, x < 256 := by
  induction l with
  | nil => intro x hx; simp [encL] at hx
  | cons t r ih =>
    intro x hx
    rcases List.mem_append.1 hx with h | h
    · exact encR_lt t x h
    · exact ih x h
theorem Tx.nat {t : Tx} (h : t.ok) : ((t.n.toNat : Nat) : Int) = t.n := by have := h.1; omega
theorem Tx.okN {t : Tx} (h : t.ok) : okT ((t.n.toNat : Nat) : Int) t.ws := by rw [t.nat h]; exact h
theorem encR_length {t : Tx} (h : t.ok) : 7 ≤ (encR t).length ∧ (encR t).length ≤ 65100 := by
  have a := encT_length t.n.toNat t.ws (t.okN h)
  have b := enc_length (encT t.n.toNat t.ws).length
  simp only [encR, encB, List.length_append, leB_length]
  omega

/-- May a log be, of which the first number must be k? -/
def okL : Nat → List Tx → Prop
  | _, [] => True
  | k, t :: r => t.ok ∧ t.n = (k : Int) ∧ okL (k + 1) r
/-- What is wrong of it. -/
def Bad : Nat → List Tx → Nat → Prop
  | _, [], c => c = 0
  | k, t :: r, c => (¬ t.ok ∧ c = 1) ∨ (t.ok ∧ t.n ≠ (k : Int) ∧ c = 6) ∨ (t.ok ∧ t.n = (k : Int) ∧ Bad (k + 1) r c)
theorem Bad.ex : ∀ (l : List Tx) (k : Nat), ∃ c, Bad k l c := by
  intro l
  induction l with
  | nil => intro k; exact ⟨0, rfl⟩
  | cons t r ih =>
    intro k
    by_cases h : t.ok
    · by_cases h1 : t.n = (k : Int)
      · obtain ⟨c, hc⟩ := ih (k + 1)
        exact ⟨c, Or.inr (Or.inr ⟨h, h1, hc⟩)⟩
      · exact ⟨6, Or.inr (Or.inl ⟨h, h1, rfl⟩)⟩
    · exact ⟨1, Or.inl ⟨h, rfl⟩⟩
theorem Bad.ok : ∀ {l : List Tx} {k c : Nat}, Bad k l c → (c = 0 ↔ okL k l) := by
  intro l
  induction l with
  | nil => intro k c h; simp only [Bad] at h; simp [okL, h]
  | cons t r ih =>
    intro k c h
    rcases h with ⟨h, rfl⟩ | ⟨h, h1, rfl⟩ | ⟨h, h1, h2⟩
    · exact ⟨fun x => by omega, fun x => absurd x.1 h⟩
    · exact ⟨fun x => by omega, fun x => absurd x.2.1 h1⟩
    · rw [ih h2]
      exact ⟨fun x => ⟨h, h1, x⟩, fun x => x.2.2⟩
theorem Bad.one : ∀ {l : List Tx} {k c d : Nat}, Bad k l c → Bad k l d → c = d := by
  intro l
  induction l with
  | nil => intro k c d h h'; simp only [Bad] at h h'; omega
  | cons t r ih =>
    intro k c d h h'
    rcases h with ⟨h, rfl⟩ | ⟨h, h1, rfl⟩ | ⟨h, h1, h2⟩
    · rcases h' with ⟨_, rfl⟩ | ⟨g, _⟩ | ⟨g, _⟩
      · rfl
      · exact absurd g h
      · exact absurd g h
    · rcases h' with ⟨g, _⟩ | ⟨_, _, rfl⟩ | ⟨_, g, _⟩
      · exact absurd h g
      · rfl
      · exact absurd g h1
    · rcases h' with ⟨g, _⟩ | ⟨_, g, _⟩ | ⟨_, _, g⟩
      · exact absurd h g
      · exact absurd h1 g
      · exact ih h2 g
theorem okL_bad {l : List Tx} {k : Nat} (h : okL k l) : Bad k l 0 := by
  obtain ⟨c, hc⟩ := Bad.ex l k
  have := (Bad.ok hc).2 h
  rw [this] at hc
  exact hc
theorem okL_append : ∀ {a b : List Tx} {k : Nat}, okL k (a ++ b) ↔ okL k a ∧ okL (k + a.length) b := by
  intro a
  induction a with
  | nil => intro b k; simp [okL]
  | cons t r ih =>
    intro b k
    simp only [List.cons_append, okL, ih, List.length_cons]
    rw [show k + 1 + r.length = k + (r.length + 1) by omega]
    constructor
    · rintro ⟨h1, h2, h3, h4⟩; exact ⟨⟨h1, h2, h3⟩, h4⟩
    · rintro ⟨⟨h1, h2, h3⟩, h4⟩; exact ⟨h1, h2, h3, h4⟩
theorem okL_get : ∀ {l : List Tx} {k : Nat}, okL k l → ∀ i, i < l.length → (l.getD i Tx.zero).ok ∧ (l.getD i Tx.zero).n = ((k + i : Nat) : Int) := by
  intro l
  induction l with
  | nil => intro k h i hi; simp at hi
  | cons t r ih =>
    intro k h i hi
    cases i with
    | zero => exact ⟨h.1, by simpa using h.2.1⟩
    | succ i =>
      have := ih h.2.2 i (by simpa using hi)
      rw [show k + 1 + i = k + (i + 1) by omega] at this
      simpa [List.getD] using this
theorem okL_take {l : List Tx} {k : Nat} (h : okL k l) (i : Nat) : okL k (l.take i) := by
  have := h
  rw [← List.take_append_drop i l, okL_append] at this
  exact this.1
theorem okL_few {l : List Tx} (h : okL 1 l) : l.length ≤ 65536 := by
  by_cases h0 : l.length = 0
  · omega
  · obtain ⟨h1, h2⟩ := okL_get h (l.length - 1) (by omega)
    have := h1.2.1
    omega
theorem okL_mem {l : List Tx} {k : Nat} (h : okL k l) : ∀ t ∈ l, t.ok := by
  intro t ht
  obtain ⟨i, hi, rfl⟩ := List.getElem_of_mem ht
  have := (okL_get h i hi).1
  simpa [List.getD, hi] using this
theorem encL_length : ∀ {l : List Tx}, (∀ t ∈ l, t.ok) → 7 * l.length ≤ (encL l).length ∧ (encL l).length ≤ 65100 * l.length := by
  intro l
  induction l with
  | nil => intro _; simp [encL]
  | cons t r ih =>
    intro h
    have a := encR_length (h t (by simp))
    have b := ih (fun x hx => h x (by simp [hx]))
    simp only [encL, List.length_append, List.length_cons]
    omega
theorem encL_few {l : List Tx} (h : okL 1 l) : (encL l).length < 2 ^ 33 := by
  have a := encL_length (okL_mem h)
  have b := okL_few h
  have : 65100 * l.length ≤ 65100 * 65536 := Nat.mul_le_mul_left _ b
  omega

/-! ### A record taken -/
def ref0 (_ : Nat) : Nat := 0
def recC (c : Nat) (ys r : List Nat) : Except Nat (Tx × List Nat) :=
  if c = crcN ys then
    match decT ys with
    | .error e => .error e
    | .ok (n, ws) => .ok (⟨n, ws⟩, r)
  else .error 4
def recS (s : ByteArray) (r : List Nat) : Except Nat (Tx × List Nat) :=
  match tk (fixF 4) ref0 r with
  | .error e => .error e
  | .ok (c, r2) => recC c (strNs s) r2
def recF (xs : List Nat) : Except Nat (Tx × List Nat) :=
  match tk (textF 65536) refV xs with
  | .error e => .error e
  | .ok (s, r) => recS s r
theorem fix4_enc (n : Nat) (r : List Nat) (h : n < 4294967296) : fixF 4 (leB 4 n ++ r) = (n, 4, 0) := by
  unfold fixF
  rw [if_neg (by decide), if_neg (by simp only [List.length_append, leB_length]; omega)]
  have e : (leB 4 n ++ r).take (4 : Int).toNat = leB 4 n := by
    have : (4 : Int).toNat = (leB 4 n).length := by rw [leB_length]; rfl
    rw [this, List.take_left]
  rw [e, leN_leB 4 n (by omega)]
  rfl
theorem fix4_cut (xs : List Nat) (h : xs.length < 4) : fixF 4 xs = (0, 0, 5) := by
  unfold fixF
  rw [if_neg (by decide), if_pos (by omega)]
theorem leB_leN : ∀ (k : Nat) (xs : List Nat), xs.length = k → (∀ x ∈ xs, x < 256) → leB k (leN xs) = xs := by
  intro k
  induction k with
  | zero => intro xs h _; rw [List.eq_nil_of_length_eq_zero h]; rfl
  | succ k ih =>
    intro xs h hb
    cases xs with
    | nil => simp at h
    | cons x r =>
      have hx := hb x (by simp)
      simp only [leN, leB]
      rw [show (x + 256 * leN r) % 256 = x by omega, show (x + 256 * leN r) / 256 = leN r by omega, ih r (by simpa using h) (fun y hy => hb y (by simp [hy]))]
theorem fix4_inv {xs r : List Nat} {c : Nat} (hb : ∀ x ∈ xs, x < 256) (h : tk (fixF 4) ref0 xs = .ok (c, r)) : xs = leB 4 c ++ r ∧ c < 4294967296 := by
  by_cases hl : xs.length < 4
  · rw [tk_err (fix4_cut xs hl) (by decide)] at h
    cases h
  · have e : fixF 4 xs = (leN (xs.take 4), 4, 0) := by
      unfold fixF
      rw [if_neg (by decide), if_neg (by omega)]
      rfl
    rw [tk_ok e rfl] at h
    cases h
    have hl4 : (xs.take 4).length = 4 := by rw [List.length_take]; omega
    have hb4 : ∀ x ∈ xs.take 4, x < 256 := fun x hx => hb x (List.mem_of_mem_take hx)
    refine ⟨?_, ?_⟩
    · rw [leB_leN 4 _ hl4 hb4, List.take_append_drop]
    · have := leN_lt _ hb4
      rw [hl4] at this
      simpa using this
theorem encB_str (s : ByteArray) : encB (strNs s) = encS s ++ leB 4 (crcN (strNs s)) := by
  simp [encB, encS, strNs_length]
theorem recF_back {t : Tx} (h : t.ok) (r : List Nat) : recF (encR t ++ r) = .ok (t, r) := by
  have hl := encT_length t.n.toNat t.ws (t.okN h)
  have hlt := encT_lt t.n.toNat t.ws
  have hd := decT_back t.n.toNat t.ws (t.okN h)
  unfold encR
  obtain ⟨ys, hy⟩ : ∃ ys, ys = encT t.n.toNat t.ws := ⟨_, rfl⟩
  rw [← hy] at hl hlt hd ⊢
  have hs : strNs (toBA ys) = ys := strNs_toBA ys hlt
  have e : encB ys ++ r = encS (toBA ys) ++ (leB 4 (crcN ys) ++ r) := by
    conv => lhs; rw [← hs]
    rw [encB_str, hs, List.append_assoc]
  have ht := text_enc 65536 (toBA ys) (leB 4 (crcN ys) ++ r) (by rw [toBA_size]; omega) (by decide)
  unfold recF
  rw [e, tk_ok (f := textF 65536) ht rfl]
  simp only [drop_left]
  unfold recS
  rw [tk_ok (fix4_enc (crcN ys) r (crcN_lt ys)) rfl]
  simp only
  rw [show (leB 4 (crcN ys) ++ r).drop 4 = r from by have := drop_left (leB 4 (crcN ys)) r; rwa [leB_length] at this]
  unfold recC
  rw [hs, if_pos rfl, hd]
  simp only
  rw [t.nat h]
theorem recF_inv {xs r : List Nat} {t : Tx} (hb : ∀ x ∈ xs, x < 256) (h : recF xs = .ok (t, r)) : xs = encR t ++ r ∧ t.ok := by
  unfold recF at h
  split at h
  · cases h
  · rename_i s r1 h1
    obtain ⟨e1, hs, _⟩ := tkS_inv (m := 65536) hb h1
    have hb1 : ∀ x ∈ r1, x < 256 := fun y hy => hb y (by rw [e1]; simp [hy])
    unfold recS at h
    split at h
    · cases h
    · rename_i c r2 h2
      obtain ⟨e2, hc⟩ := fix4_inv hb1 h2
      unfold recC at h
      split at h
      · rename_i hcc
        split at h
        · cases h
        · rename_i n ws hd
          cases h
          obtain ⟨e3, hok⟩ := decT_inv (strNs_lt s) hd
          refine ⟨?_, hok⟩
          rw [e1, e2, hcc]
          unfold encR
          simp only [Int.toNat_natCast]
          rw [← e3, encB_str, List.append_assoc]
      · cases h
theorem recF_code {xs : List Nat} {c : Nat} (hd : ∀ ys e, decT ys = .error e → e ≠ 0) (h : recF xs = .error c) : c ≠ 0 := by
  unfold recF at h
  split at h
  · rename_i hh; cases h; exact tk_code hh
  · unfold recS at h
    split at h
    · rename_i hh; cases h; exact tk_code hh
    · unfold recC at h
      split at h
      · split at h
        · rename_i hh; cases h; exact hd _ _ hh
        · cases h
      · cases h; decide
theorem recF_cut {t : Tx} (h : t.ok) (k : Nat) (hk : k < (encR t).length) : recF ((encR t).take k) = .error 5 := by
  have hl := encT_length t.n.toNat t.ws (t.okN h)
  have hlt := encT_lt t.n.toNat t.ws
  unfold encR at *
  obtain ⟨ys, hy⟩ : ∃ ys, ys = encT t.n.toNat t.ws := ⟨_, rfl⟩
  rw [← hy] at hl hlt hk ⊢
  have hs : strNs (toBA ys) = ys := strNs_toBA ys hlt
  have e : encB ys = encS (toBA ys) ++ leB 4 (crcN ys) := by
    conv => lhs; rw [← hs]
    rw [encB_str, hs]
  rw [e] at hk ⊢
  rw [List.length_append, leB_length] at hk
  unfold recF
  by_cases h1 : k < (encS (toBA ys)).length
  · rw [take_low _ _ _ h1]
    have ht := text_cut 65536 (toBA ys) k (by rw [toBA_size]; omega) (by decide) h1
    have : tk (textF 65536) refV ((encS (toBA ys)).take k) = .error 5 := by
      rw [tk_err (f := textF 65536) (v := _) (k := _) (e := 5) (Prod.ext rfl (Prod.ext rfl ht)) (by decide)]
    rw [this]
  · rw [take_high _ _ _ (by omega)]
    have ht := text_enc 65536 (toBA ys) ((leB 4 (crcN ys)).take (k - (encS (toBA ys)).length)) (by rw [toBA_size]; omega) (by decide)
    rw [tk_ok (f := textF 65536) ht rfl]
    simp only [drop_left]
    unfold recS
    rw [tk_err (fix4_cut _ (by rw [List.length_take, leB_length]; omega)) (by decide)]

/-! ### A log taken -/
/-- Why the next record is none. -/
def Stop (k : Nat) (xs : List Nat) (c : Nat) : Prop :=
  (xs = [] ∧ c = 0) ∨ (xs ≠ [] ∧ recF xs = .error c) ∨ (xs ≠ [] ∧ c = 6 ∧ ∃ t r, recF xs = .ok (t, r) ∧ t.n ≠ (k : Int))
/-- Of the bytes xs the transactions ls are told, vs is left, and c is why. -/
def Rds : Nat → List Nat → List Tx → List Nat → Nat → Prop
  | k, xs, [], vs, c => vs = xs ∧ Stop k xs c
  | k, xs, t :: r, vs, c => ∃ ys, xs ≠ [] ∧ recF xs = .ok (t, ys) ∧ t.n = (k : Int) ∧ Rds (k + 1) ys r vs c
theorem Rds.ex : ∀ (m : Nat) (k : Nat) (xs : List Nat), xs.length ≤ m → (∀ x ∈ xs, x < 256) → ∃ ls vs c, Rds k xs ls vs c := by
  intro m
  induction m with
  | zero =>
    intro k xs h _
    exact ⟨[], xs, 0, rfl, Or.inl ⟨List.eq_nil_of_length_eq_zero (by omega), rfl⟩⟩
  | succ m ih =>
    intro k xs h hb
    by_cases h0 : xs = []
    · exact ⟨[], xs, 0, rfl, Or.inl ⟨h0, rfl⟩⟩
    · cases hr : recF xs with
      | error c => exact ⟨[], xs, c, rfl, Or.inr (Or.inl ⟨h0, hr⟩)⟩
      | ok p =>
        obtain ⟨t, ys⟩ := p
        obtain ⟨e, hok⟩ := recF_inv hb hr
        have hl := (encR_length hok).1
        by_cases hn : t.n = (k : Int)
        · have h2 : ys.length ≤ m := by rw [e, List.length_append] at h; omega
          obtain ⟨ls, vs, c, hR⟩ := ih (k + 1) ys h2 (fun x hx => hb x (by rw [e]; simp [hx]))
          exact ⟨t :: ls, vs, c, ys, h0, hr, hn, hR⟩
        · exact ⟨[], xs, 6, rfl, Or.inr (Or.inr ⟨h0, rfl, t, ys, hr, hn⟩)⟩
theorem Rds.inv : ∀ {ls : List Tx} {k : Nat} {xs vs : List Nat} {c : Nat}, (∀ x ∈ xs, x < 256) → Rds k xs ls vs c → xs = encL ls ++ vs ∧ okL k ls ∧ Stop (k + ls.length) vs c := by
  intro ls
  induction ls with
  | nil =>
    intro k xs vs c hb h
    obtain ⟨rfl, h⟩ := h
    exact ⟨rfl, trivial, by simpa using h⟩
  | cons t r ih =>
    intro k xs vs c hb h
    obtain ⟨ys, h0, h1, h2, h3⟩ := h
    obtain ⟨e, hok⟩ := recF_inv hb h1
    obtain ⟨e2, h4, h5⟩ := ih (fun x hx => hb x (by rw [e]; simp [hx])) h3
    refine ⟨by rw [e, e2]; simp [encL], ⟨hok, h2, h4⟩, ?_⟩
    rw [show k + (t :: r).length = k + 1 + r.length by simp only [List.length_cons]; omega]
    exact h5
theorem Stop.zero {k : Nat} {xs : List Nat} {c : Nat} (hd : ∀ ys e, decT ys = .error e → e ≠ 0) (h : Stop k xs c) : c = 0 ↔ xs = [] := by
  rcases h with ⟨h, hc⟩ | ⟨h, hc⟩ | ⟨h, hc, _⟩
  · exact ⟨fun _ => h, fun _ => hc⟩
  · exact ⟨fun x => absurd x (recF_code hd hc), fun x => absurd x h⟩
  · exact ⟨fun x => by omega, fun x => absurd x h⟩
theorem Rds.one : ∀ {ls ls' : List Tx} {k : Nat} {xs vs vs' : List Nat} {c c' : Nat}, Rds k xs ls vs c → Rds k xs ls' vs' c' → ls = ls' ∧ vs = vs' ∧ c = c' := by
  intro ls
  induction ls with
  | nil =>
    intro ls' k xs vs vs' c c' h h'
    obtain ⟨rfl, h⟩ := h
    cases ls' with
    | nil =>
      obtain ⟨rfl, h'⟩ := h'
      refine ⟨rfl, rfl, ?_⟩
      rcases h with ⟨h, rfl⟩ | ⟨h, h1⟩ | ⟨h, rfl, t, r, h1, h2⟩
      · rcases h' with ⟨_, rfl⟩ | ⟨g, _⟩ | ⟨g, _⟩
        · rfl
        · exact absurd h g
        · exact absurd h g
      · rcases h' with ⟨g, _⟩ | ⟨_, g⟩ | ⟨_, _, t, r, g, _⟩
        · exact absurd g h
        · rw [h1] at g; cases g; rfl
        · rw [h1] at g; cases g
      · rcases h' with ⟨g, _⟩ | ⟨_, g⟩ | ⟨_, g, _⟩
        · exact absurd g h
        · rw [h1] at g; cases g
        · exact g.symm
    | cons t' r' =>
      obtain ⟨ys, g0, g1, g2, _⟩ := h'
      rcases h with ⟨h, _⟩ | ⟨_, h⟩ | ⟨_, _, t, r, h1, h2⟩
      · exact absurd h g0
      · rw [h] at g1; cases g1
      · rw [h1] at g1; cases g1; exact absurd g2 h2
  | cons t r ih =>
    intro ls' k xs vs vs' c c' h h'
    obtain ⟨ys, h0, h1, h2, h3⟩ := h
    cases ls' with
    | nil =>
      obtain ⟨rfl, h'⟩ := h'
      rcases h' with ⟨g, _⟩ | ⟨_, g⟩ | ⟨_, _, t', r', g, g2⟩
      · exact absurd g h0
      · rw [h1] at g; cases g
      · rw [h1] at g; cases g; exact absurd h2 g2
    | cons t' r' =>
      obtain ⟨ys', g0, g1, g2, g3⟩ := h'
      rw [h1] at g1
      cases g1
      obtain ⟨a, b, d⟩ := ih h3 g3
      exact ⟨by rw [a], b, d⟩
/-- What stands whole ahead is told. -/
theorem Rds.ahead : ∀ {l ls : List Tx} {k : Nat} {zs vs : List Nat} {c : Nat}, okL k l → Rds k (encL l ++ zs) ls vs c → ∃ rs, ls = l ++ rs ∧ Rds (k + l.length) zs rs vs c := by
  intro l
  induction l with
  | nil => intro ls k zs vs c _ h; exact ⟨ls, rfl, by simpa [encL] using h⟩
  | cons t r ih =>
    intro ls k zs vs c hok h
    obtain ⟨h1, h2, h3⟩ := hok
    have e : encL (t :: r) ++ zs = encR t ++ (encL r ++ zs) := by simp [encL]
    rw [e] at h
    have hb := recF_back h1 (encL r ++ zs)
    have hne : encR t ++ (encL r ++ zs) ≠ [] := by
      intro h0
      have := congrArg List.length h0
      have hl := (encR_length h1).1
      simp only [List.length_append, List.length_nil] at this
      omega
    cases ls with
    | nil =>
      obtain ⟨_, h⟩ := h
      rcases h with ⟨g, _⟩ | ⟨_, g⟩ | ⟨_, _, t', r', g, g2⟩
      · exact absurd g hne
      · rw [hb] at g; cases g
      · rw [hb] at g; cases g; exact absurd h2 g2
    | cons t' r' =>
      obtain ⟨ys, _, g1, g2, g3⟩ := h
      rw [hb] at g1
      cases g1
      obtain ⟨rs, e1, e2⟩ := ih h3 g3
      refine ⟨rs, by rw [e1]; rfl, ?_⟩
      rw [show k + (t :: r).length = k + 1 + r.length by simp only [List.length_cons]; omega]
      exact e2
theorem Rds.nil {k : Nat} {ls : List Tx} {vs : List Nat} {c : Nat} (h : Rds k [] ls vs c) : ls = [] ∧ vs = [] ∧ c = 0 := by
  cases ls with
  | nil =>
    obtain ⟨rfl, h⟩ := h
    rcases h with ⟨_, rfl⟩ | ⟨g, _⟩ | ⟨g, _⟩
    · exact ⟨rfl, rfl, rfl⟩
    · exact absurd rfl g
    · exact absurd rfl g
  | cons t r =>
    obtain ⟨ys, h0, _⟩ := h
    exact absurd rfl h0
theorem Rds.back {l ls : List Tx} {k : Nat} {vs : List Nat} {c : Nat} (hok : okL k l) (h : Rds k (encL l) ls vs c) : ls = l ∧ vs = [] ∧ c = 0 := by
  rw [← List.append_nil (encL l)] at h
  obtain ⟨rs, e, h2⟩ := Rds.ahead hok h
  obtain ⟨rfl, e2, e3⟩ := Rds.nil h2
  exact ⟨by rw [e, List.append_nil], e2, e3⟩
/-- A log that is cut. -/
theorem Rds.cut : ∀ {l ls : List Tx} {k : Nat} {vs : List Nat} {c : Nat} (j : Nat), okL k l → Rds k ((encL l).take j) ls vs c → (∃ m, ls = l.take m) ∧ (c = 0 ∨ c = 5) := by
  intro l
  induction l with
  | nil =>
    intro ls k vs c j _ h
    simp only [encL, List.take_nil] at h
    obtain ⟨rfl, _, rfl⟩ := Rds.nil h
    exact ⟨⟨0, rfl⟩, Or.inl rfl⟩
  | cons t r ih =>
    intro ls k vs c j hok h
    obtain ⟨h1, h2, h3⟩ := hok
    simp only [encL] at h
    by_cases hj : j < (encR t).length
    · rw [take_low _ _ _ hj] at h
      have hc := recF_cut h1 j hj
      cases ls with
      | nil =>
        obtain ⟨_, h⟩ := h
        refine ⟨⟨0, rfl⟩, ?_⟩
        rcases h with ⟨_, rfl⟩ | ⟨_, g⟩ | ⟨_, _, t', r', g, _⟩
        · exact Or.inl rfl
        · rw [hc] at g; cases g; exact Or.inr rfl
        · rw [hc] at g; cases g
      | cons t' r' =>
        obtain ⟨ys, _, g1, _⟩ := h
        rw [hc] at g1; cases g1
    · rw [take_high _ _ _ (by omega)] at h
      have hb := recF_back h1 ((encL r).take (j - (encR t).length))
      have hne : encR t ++ (encL r).take (j - (encR t).length) ≠ [] := by
        intro h0
        have := congrArg List.length h0
        have hl := (encR_length h1).1
        simp only [List.length_append, List.length_nil] at this
        omega
      cases ls with
      | nil =>
        obtain ⟨_, h⟩ := h
        rcases h with ⟨g, _⟩ | ⟨_, g⟩ | ⟨_, _, t', r', g, g2⟩
        · exact absurd g hne
        · rw [hb] at g; cases g
        · rw [hb] at g; cases g; exact absurd h2 g2
      | cons t' r' =>
        obtain ⟨ys, _, g1, g2, g3⟩ := h
        rw [hb] at g1
        cases g1
        obtain ⟨⟨m, e⟩, hc⟩ := ih _ h3 g3
        exact ⟨⟨m + 1, by rw [e]; rfl⟩, hc⟩
/-- A log's bytes are no other log's. -/
theorem encL_inj {l m : List Tx} {k : Nat} (h : okL k l) (h' : okL k m) (e : encL l = encL m) : l = m := by
  obtain ⟨ls, vs, c, hR⟩ := Rds.ex _ k (encL l) (Nat.le_refl _) (encL_lt l)
  have a := (Rds.back h hR).1
  rw [e] at hR
  exact a.symm.trans (Rds.back h' hR).1
end Go.Proofs.YtaefninikmaiiaaGreatDoor
/- May a transaction be: contracts of Check and of the closure that it asks. Conditions as each names them. -/
namespace Go.Proofs.YtaefninikmaiiaaGreatDoor
open Go.ChangeShapes Go.WideShapes Go.ChangeAt Go.RowKit Go.Lib
set_option linter.unusedVariables false

/-- It tells whether the write may not be. -/
def TellsW (e : Ending) (x : Wt) : Prop := ∃ B : Bool, e = .returned (.bool B) ∧ (B = true ↔ ¬ okW x)
set_option maxHeartbeats 2000000 in
set_option maxRecDepth 100000 in
theorem cCheck_any (i L cap b off g : Nat) (x : Wt) (w : World) (hi : i < L) (hL : L ≤ 140737488355328) (hx : WAt w b (off + i * 3) x) (hk : x.key.size ≤ 140737488355328) (hv : x.val.size ≤ 140737488355328)
    (hg : w.cell? ⟨g, 1, none⟩ = some (.slice (some ⟨b, off, none⟩) L cap)) :
    Calls Tryz.prog 159 #[.int .i64 (i : Int), .pointer (some ⟨g, 0, none⟩)] w fun e w' => TellsW e x ∧ Fr [] w w' := by
  obtain ⟨key, val, drop⟩ := x
  obtain ⟨c0, c1, c2⟩ := hx
  simp only at c0 c1 c2 hk hv
  have HO : Hid (okW ⟨key, val, drop⟩ ↔ _) := okW_iff key val drop
  go_enter Tryz.func159, Tryz.ntmps159
  go_wp2
  all_goals (
    go_ret
    refine ⟨⟨_, rfl, ?_⟩, Fr.alloc _ _ _⟩
    have HO' := HO.out
    clear HO
    simp_all)
  all_goals (intros; exfalso; omega)

theorem okT_no {n : Int} {ws : List Wt} {i : Nat} (hi : i < ws.length) (h : ¬ okW (ws.getD i Wt.zero)) : ¬ okT n ws := fun hh => h (hh.2.2.2 _ (wgetD_mem ws i hi))

set_option maxHeartbeats 4000000 in
set_option maxRecDepth 100000 in
theorem check_any (n : Int) (ao : Option Addr) (L cap c : Nat) (ws : List Wt) (w : World) (hW : WRs w ao ws) (hL : L = ws.length) (hn0 : -9223372036854775808 ≤ n) (hn1 : n ≤ 9223372036854775807)
    (hc : (okT n ws ∧ c = 0) ∨ (¬ okT n ws ∧ c = 1)) :
    Calls Tryz.prog 113 #[.agg #[.int .i64 n, .slice ao L cap]] w fun e w' => e = .returned (.int .i64 (c : Int)) ∧ Fr [] w w' := by
  have HC : Hid (_ ∨ _) := hc
  have HL : Hid (L = ws.length) := hL
  have hLm : L ≤ 140737488355328 := by have := hW.few; omega
  clear hc hL
  by_cases h1 : n < 1
  · have hc1 : c = 1 := by rcases HC.out with ⟨h, _⟩ | ⟨_, h⟩; · exact absurd h.1 (by omega)
                           · exact h
    subst hc1
    clear HC
    go_enter Tryz.func113, Tryz.ntmps113
    go_wp2
    go_ret
    exact ⟨rfl, Fr.alloc _ _ _⟩
  · by_cases h2 : 65536 < n
    · have hc1 : c = 1 := by rcases HC.out with ⟨h, _⟩ | ⟨_, h⟩; · exact absurd h.2.1 (by omega)
                             · exact h
      subst hc1
      clear HC
      have h1' : 1 ≤ n := by omega
      clear h1
      go_enter Tryz.func113, Tryz.ntmps113
      go_wp2
      go_ret
      exact ⟨rfl, Fr.alloc _ _ _⟩
    · have h1' : 1 ≤ n := by omega
      have h2' : n ≤ 65536 := by omega
      clear h1 h2
      by_cases h3 : 32 < L
      · have hc1 : c = 1 := by rcases HC.out with ⟨h, _⟩ | ⟨_, h⟩; · exact absurd h.2.2.1 (by rw [← HL.out]; omega)
                               · exact h
        subst hc1
        clear HC
        have h3' : (32 : Int) < L := by omega
        go_enter Tryz.func113, Tryz.ntmps113
        go_wp2
        go_ret
        exact ⟨rfl, Fr.alloc _ _ _⟩
      · have h3' : (L : Int) ≤ 32 := by omega
        clear h3
        have c1 : (w.alloc (.cells #[.int .i64 n, .slice ao L cap] 63)).cell? ⟨w.heap.size, 1, none⟩ = some (.slice ao L cap) := cell_of_row _ _ _ _ _ _ (heap_alloc_new w _)
        have hd1 : decide (n < 1) = false := by simp; omega
        have hd2 : decide (65536 < n) = false := by simp; omega
        have hd3 : decide ((32 : Int) < L) = false := by simp; omega
        have hF0 : Fr [] w (w.alloc (.cells #[.int .i64 n, .slice ao L cap] 63)) := Fr.alloc _ _ _
        have hW1 := hW.keep hF0
        go_enter Tryz.func113, Tryz.ntmps113
        go_wp2_with fail
        obtain ⟨w1, HW1⟩ : ∃ w1, Hid (w.alloc (.cells #[.int .i64 n, .slice ao L cap] 63) = w1) := ⟨_, rfl⟩
        rw [HW1.out] at c1 hF0 hW1 ⊢
        have hlt : w.heap.size < w1.heap.size := by rw [← HW1.out]; simp
        go_loopw [23] (fun ii wr => ∃ (i : Nat), ii = .int .i64 i ∧ i ≤ L ∧ Hid (∀ j, j < i → okW (ws.getD j Wt.zero)) ∧ Fr [] w1 wr) (fun ii _ => L - (RowKit.intOf ii).toNat)
        case atStart => exact ⟨0, rfl, Nat.zero_le _, fun j hj => by omega, Fr.refl _ _⟩
        case round =>
          obtain ⟨i, rfl, hiL, HE, hFr⟩ := hrel
          have c1r : wr.cell? ⟨w.heap.size, 1, none⟩ = some (.slice ao L cap) := (World.cell?_of_block (hFr.block _ hlt (by simp))).trans c1
          by_cases hi : i < L
          · have hi' : i < ws.length := by rw [← HL.out]; exact hi
            obtain ⟨b, off, rfl, _, hc⟩ := (hW1.keep hFr).lies (by omega)
            have hx := hc i hi'
            have hm := hW.each _ (wgetD_mem ws i hi')
            obtain ⟨x, hxx⟩ : ∃ x, x = ws.getD i Wt.zero := ⟨_, rfl⟩
            rw [← hxx] at hx hm
            have HX : Hid (x = ws.getD i Wt.zero) := hxx
            clear hxx hc
            go_wp2_with fail
            refine (cCheck_any i L cap b off w.heap.size x _ hi hLm hx hm.1 hm.2 c1r).mono ?_
            rintro e w2 ⟨⟨B, rfl, hB⟩, hF2⟩
            cases B with
            | true =>
              have hno : ¬ okW x := hB.1 rfl
              have hc1 : c = 1 := by rcases HC.out with ⟨h, _⟩ | ⟨_, h⟩; · exact absurd h (okT_no hi' (HX.out ▸ hno))
                                     · exact h
              subst hc1
              clear HC hB hno
              go_wp2
              go_ret
              exact ⟨rfl, hF0.then (hFr.then hF2)⟩
            | false =>
              have HE2 : Hid (∀ j, j < i + 1 → okW (ws.getD j Wt.zero)) := by
                intro j hj
                by_cases hji : j = i
                · subst hji
                  rw [← HX.out]
                  exact Classical.byContradiction fun h => absurd (hB.2 h) (by simp)
                · exact HE.out j (by omega)
              clear hB
              go_wp2
              go_roundw
              case rel => exact ⟨i + 1, by simp, by omega, HE2, hFr.then hF2⟩
              case measure => simp [RowKit.intOf]; omega
          · have hc0 : c = 0 := by
              rcases HC.out with ⟨_, h⟩ | ⟨h, _⟩
              · exact h
              · refine absurd ⟨h1', h2', by rw [← HL.out]; omega, ?_⟩ h
                intro x hx
                obtain ⟨j, hj, rfl⟩ := List.getElem_of_mem hx
                have := HE.out j (by have := HL.out; omega)
                simpa [List.getD, hj] using this
            subst hc0
            clear HC
            go_wp2
            go_ret
            exact ⟨rfl, hF0.then hFr⟩
end Go.Proofs.YtaefninikmaiiaaGreatDoor
/- A transaction as bytes: contracts of put, Encode and Size. Conditions as each names them. -/
namespace Go.Proofs.YtaefninikmaiiaaGreatDoor
open Go.ChangeShapes Go.WideShapes Go.ChangeAt Go.RowKit Go.Lib
set_option linter.unusedVariables false

theorem Wr.chain {w a b : World} {g : Nat} {v v1 v2 : Value} {ys : List Nat} (hF1 : Fr (Wr.own g v) w a) (hM1 : Moved w.heap.size v v1) (hW2 : Wr b g v2 ys) (hF2 : Fr (Wr.own g v1) a b) (hM2 : Moved a.heap.size v1 v2) :
    Wr b g v2 ys ∧ Fr (Wr.own g v) w b ∧ Moved w.heap.size v v2 :=
  ⟨hW2, hF1.trans hF2 (fun _ x _ => x) (fun x hx hl => own_moved hM1 hx hl), hM1.trans hM2 hF1.size⟩

theorem leB_one (d : Nat) (h : d < 256) : leB 1 d = [d] := by simp [leB, Nat.mod_eq_of_lt h]

set_option maxHeartbeats 2000000 in
set_option maxRecDepth 100000 in
theorem put_any (g : Nat) (v : Value) (xs zs : List Nat) (key val : ByteArray) (drop : Bool) (w : World) (h : Wr w g v xs) (hk : key.size ≤ 64) (hv : val.size ≤ 1024) (hlen : xs.length < 2^39) (hz : zs = xs ++ encW ⟨key, val, drop⟩) :
    Calls Tryz.prog 154 #[.pointer (some ⟨g, 0, none⟩), .agg #[.string key, .string val, .bool drop]] w fun e w' => e = .returned (.tuple #[]) ∧ ∃ v', Wr w' g v' zs ∧ Fr (Wr.own g v) w w' ∧ Moved w.heap.size v v' := by
  have HZ : Hid (zs = xs ++ encW ⟨key, val, drop⟩) := hz
  clear hz
  have hF0 : Fr (Wr.own g v) w (w.alloc (.cells #[.string key, .string val, .bool drop] 124)) := Fr.alloc _ _ _
  have h0 : Wr (w.alloc (.cells #[.string key, .string val, .bool drop] 124)) g v xs := h.keep (Fr.alloc [] w _) (by simp) (by simp)
  have c0 : (w.alloc (.cells #[.string key, .string val, .bool drop] 124)).cell? ⟨w.heap.size, 0, none⟩ = some (.string key) := cell_of_row _ _ _ _ _ _ (heap_alloc_new w _)
  have c1 : (w.alloc (.cells #[.string key, .string val, .bool drop] 124)).cell? ⟨w.heap.size, 1, none⟩ = some (.string val) := cell_of_row _ _ _ _ _ _ (heap_alloc_new w _)
  have c2 : (w.alloc (.cells #[.string key, .string val, .bool drop] 124)).cell? ⟨w.heap.size, 2, none⟩ = some (.bool drop) := cell_of_row _ _ _ _ _ _ (heap_alloc_new w _)
  have hsz : w.heap.size < (w.alloc (.cells #[.string key, .string val, .bool drop] 124)).heap.size := by simp
  have hek := encS_length key
  have hgw := h.lt
  have hrw := h.rowlt
  obtain ⟨w0, HW0⟩ : ∃ w0, Hid (w.alloc (.cells #[.string key, .string val, .bool drop] 124) = w0) := ⟨_, rfl⟩
  rw [HW0.out] at hF0 h0 c0 c1 c2 hsz
  have hown : w.heap.size ∉ Wr.own g v := by
    simp only [Wr.own, List.mem_cons, Option.mem_toList, not_or]
    exact ⟨by omega, fun hh => by have := hrw _ hh; omega⟩
  have hM0 : Moved w.heap.size v v := Moved.refl _ _
  go_enter Tryz.func154, Tryz.ntmps154
  go_wp2_with fail
  rw [HW0.out]
  refine (text_any g v xs key _ h0 (by omega) (by omega)).mono ?_
  rintro e w1 ⟨rfl, v1, hW1, hF1, hM1⟩
  obtain ⟨_, hF01, hM01⟩ := Wr.chain hF0 hM0 hW1 hF1 hM1
  have hmv := hM1
  have hs1 := hF1.size
  have d1 : w1.cell? ⟨w.heap.size, 1, none⟩ = some (.string val) := (World.cell?_of_block (hF1.block _ hsz hown)).trans c1
  have d2 : w1.cell? ⟨w.heap.size, 2, none⟩ = some (.bool drop) := (World.cell?_of_block (hF1.block _ hsz hown)).trans c2
  have hl1 : (xs ++ (enc key.size ++ strNs key)).length < 2^39 + 100 := by
    have : (enc key.size ++ strNs key).length ≤ 10 + key.size := hek.2
    rw [List.length_append]; omega
  obtain ⟨ys, hys⟩ : ∃ ys, ys = xs ++ (enc key.size ++ strNs key) := ⟨_, rfl⟩
  rw [← hys] at hW1 hl1
  have HY : Hid (ys = xs ++ encS key) := hys
  clear hys c0 c1 c2 hF1 hM1
  cases drop with
  | true =>
    have e : zs = ys ++ leB (1 : Int).toNat (1 : Int).toNat := by rw [HZ.out, HY.out]; simp [encW, encV, leB]
    have HE : Hid (zs = ys ++ leB (1 : Int).toNat (1 : Int).toNat) := e
    clear e HZ HY
    go_wp2_with fail
    refine (fixed_any g v1 ys 1 1 _ hW1 (by decide) (by decide) (by decide) (by decide) (by decide) (by omega)).mono ?_
    rintro e w2 ⟨rfl, v2, hW2, hF2, hM2⟩
    have R := Wr.chain hF01 hM01 hW2 hF2 hM2
    clear hW2 hF2 hM2 hW1
    go_wp2
    refine bodyPost_ret (results_none rfl _ _ _) rfl ?_
    rw [HE.out]
    exact ⟨rfl, v2, R⟩
  | false =>
    have e : zs = (ys ++ leB (1 : Int).toNat (0 : Int).toNat) ++ (enc val.size ++ strNs val) := by rw [HZ.out, HY.out]; simp [encW, encV, encS, leB]
    have HE : Hid (zs = (ys ++ leB (1 : Int).toNat (0 : Int).toNat) ++ (enc val.size ++ strNs val)) := e
    clear e HZ HY
    go_wp2_with fail
    refine (fixed_any g v1 ys 0 1 _ hW1 (by decide) (by decide) (by decide) (by decide) (by decide) (by omega)).mono ?_
    rintro e w2 ⟨rfl, v2, hW2, hF2, hM2⟩
    obtain ⟨_, hF02, hM02⟩ := Wr.chain hF01 hM01 hW2 hF2 hM2
    have hown1 : w.heap.size ∉ Wr.own g v1 := by
      intro hh
      simp only [Wr.own, List.mem_cons, Option.mem_toList] at hh
      rcases hh with hh | hh
      · omega
      · rcases hmv with h' | ⟨k, h', h''⟩
        · exact hown (by simp only [Wr.own, List.mem_cons, Option.mem_toList]; exact Or.inr (h' ▸ hh))
        · rw [hh] at h'; cases h'; omega
    have d1' : w2.cell? ⟨w.heap.size, 1, none⟩ = some (.string val) := (World.cell?_of_block (hF2.block _ (Nat.lt_of_lt_of_le hsz hs1) hown1)).trans d1
    have hl2 : (ys ++ leB (1 : Int).toNat (0 : Int).toNat).length < 2^40 := by rw [List.length_append, leB_length]; omega
    obtain ⟨us, hus⟩ : ∃ us, us = ys ++ leB (1 : Int).toNat (0 : Int).toNat := ⟨_, rfl⟩
    rw [← hus] at hW2 hl2 HE
    clear hus hF2 hM2 hW1 d1
    go_wp2_with fail
    refine (text_any g v2 us val _ hW2 hl2 (by omega)).mono ?_
    rintro e w3 ⟨rfl, v3, hW3, hF3, hM3⟩
    have R := Wr.chain hF02 hM02 hW3 hF3 hM3
    clear hW3 hF3 hM3 hW2
    go_wp2
    go_end0
    rw [HE.out]
    exact ⟨rfl, v3, R⟩

theorem u64_nat (n : Int) (h0 : 0 ≤ n) (h1 : n ≤ 65536) : IntKind.u64.wrap n = n := by rw [wr_u64]; omega

set_option maxHeartbeats 4000000 in
set_option maxRecDepth 100000 in
theorem encode_no (n : Int) (ao : Option Addr) (L cap : Nat) (ws : List Wt) (w : World) (hW : WRs w ao ws) (hL : L = ws.length) (hn0 : -9223372036854775808 ≤ n) (hn1 : n ≤ 9223372036854775807) (hno : ¬ okT n ws) :
    Calls Tryz.prog 103 #[.agg #[.int .i64 n, .slice ao L cap]] w fun e w' => e = .returned (.tuple #[.slice none 0 0, .int .i64 1]) ∧ Fr [] w w' := by
  have HL : Hid (L = ws.length) := hL
  have HN : Hid (¬ okT n ws) := hno
  clear hL hno
  have hF0 : Fr [] w (w.alloc (.cells #[.int .i64 n, .slice ao L cap] 63)) := Fr.alloc _ _ _
  have hW0 := hW.keep hF0
  go_enter Tryz.func103, Tryz.ntmps103
  go_wp2_with fail
  refine (check_any n ao L cap 1 ws _ hW0 HL.out hn0 hn1 (Or.inr ⟨HN.out, rfl⟩)).mono ?_
  rintro e w1 ⟨rfl, hF1⟩
  have hF := hF0.then hF1
  clear hF0 hF1 hW0
  go_wp2
  go_ret2
  exact ⟨rfl, hF⟩

set_option maxHeartbeats 8000000 in
set_option maxRecDepth 100000 in
theorem encode_ok (n : Int) (ao : Option Addr) (L cap N : Nat) (ws : List Wt) (ys : List Nat) (w : World) (hW : WRs w ao ws) (hL : L = ws.length) (hok : okT n ws) (hys : ys = encT n.toNat ws) (hN : N = ys.length) :
    Calls Tryz.prog 103 #[.agg #[.int .i64 n, .slice ao L cap]] w fun e w' => ∃ k, e = .returned (.tuple #[.slice (some ⟨k, 0, none⟩) N N, .int .i64 0]) ∧ w.heap.size ≤ k ∧ w'.heap[k]? = some (.cells (bts ys).toArray 5 (0, 0)) ∧ Fr [] w w' := by
  obtain ⟨N0, hNN⟩ : ∃ N0 : Nat, n = N0 := ⟨n.toNat, by have := hok.1; omega⟩
  subst hNN
  rw [Int.toNat_natCast] at hys
  have hlen := encT_length N0 ws hok
  have hL32 : L ≤ 32 := by rw [hL]; exact hok.2.2.1
  have hN1 := hok.1
  have hN2 := hok.2.1
  have HL : Hid (L = ws.length) := hL
  have HK : Hid (okT (N0 : Int) ws) := hok
  have HY : Hid (ys = encT N0 ws) := hys
  have HN : Hid (N = ys.length) := hN
  have hwn := u64_nat (N0 : Int) (by omega) (by omega)
  have hwl := u64_nat (L : Int) (by omega) (by omega)
  clear hL hok hys hN hlen
  have hF0 : Fr [] w (w.alloc (.cells #[.int .i64 (N0 : Int), .slice ao L cap] 63)) := Fr.alloc _ _ _
  have hW0 := hW.keep hF0
  have c0 : (w.alloc (.cells #[.int .i64 (N0 : Int), .slice ao L cap] 63)).cell? ⟨w.heap.size, 0, none⟩ = some (.int .i64 (N0 : Int)) := cell_of_row _ _ _ _ _ _ (heap_alloc_new w _)
  have c1 : (w.alloc (.cells #[.int .i64 (N0 : Int), .slice ao L cap] 63)).cell? ⟨w.heap.size, 1, none⟩ = some (.slice ao L cap) := cell_of_row _ _ _ _ _ _ (heap_alloc_new w _)
  have hsz : w.heap.size < (w.alloc (.cells #[.int .i64 (N0 : Int), .slice ao L cap] 63)).heap.size := by simp
  obtain ⟨w0, HW0⟩ : ∃ w0, Hid (w.alloc (.cells #[.int .i64 (N0 : Int), .slice ao L cap] 63) = w0) := ⟨_, rfl⟩
  rw [HW0.out] at hF0 hW0 c0 c1 hsz
  go_enter Tryz.func103, Tryz.ntmps103
  go_wp2_with fail
  rw [HW0.out]
  refine (check_any (N0 : Int) ao L cap 0 ws _ hW0 HL.out (by omega) (by omega) (Or.inl ⟨HK.out, rfl⟩)).mono ?_
  rintro e w1 ⟨rfl, hF1⟩
  have hF01 := hF1
  go_wp2_with fail
  refine (newWriter_wr w0 w1 hF01).mono ?_
  rintro e w2 ⟨g, rfl, hg, hB2, hF2⟩
  have k0 : w2.cell? ⟨w.heap.size, 0, none⟩ = some (.int .i64 (N0 : Int)) := (World.cell?_of_block (hB2.fr.block _ hsz (by simp))).trans c0
  have k1 : w2.cell? ⟨w.heap.size, 1, none⟩ = some (.slice ao L cap) := (World.cell?_of_block (hB2.fr.block _ hsz (by simp))).trans c1
  go_wp2_with fail
  refine (var_any g _ [] (N0 : Int) _ hB2.wr (by omega) (by omega) (by simp)).mono ?_
  rintro e w3 ⟨rfl, v3, hW3, hF3, hM3⟩
  have hB3 := hB2.next hW3 hF3 hM3
  rw [List.nil_append, Int.toNat_natCast] at hB3
  have m1 : w3.cell? ⟨w.heap.size, 1, none⟩ = some (.slice ao L cap) := (World.cell?_of_block (hB3.fr.block _ hsz (by simp))).trans c1
  have hl3 := enc_length N0
  clear hW3 hF3 hM3 hB2 k0 k1 hF2
  go_wp2_with fail
  refine (var_any g _ (enc N0) (L : Int) _ hB3.wr (by omega) (by omega) (by omega)).mono ?_
  rintro e w4 ⟨rfl, v4, hW4, hF4, hM4⟩
  have hB4 := hB3.next hW4 hF4 hM4
  rw [Int.toNat_natCast] at hB4
  have p1 : w4.cell? ⟨w.heap.size, 1, none⟩ = some (.slice ao L cap) := (World.cell?_of_block (hB4.fr.block _ hsz (by simp))).trans c1
  clear hW4 hF4 hM4 hB3 m1
  go_wp2_with fail
  go_loopw [27] (fun ii wr => ∃ (i : Nat) (v : Value) (us : List Nat), ii = .int .i64 i ∧ i ≤ L ∧ Hid (us = enc N0 ++ enc L ++ encWs (ws.take i)) ∧ WB w0 wr g v us) (fun ii _ => L - (RowKit.intOf ii).toNat)
  case atStart => exact ⟨0, v4, _, rfl, Nat.zero_le _, by simp [Hid, encWs], hB4⟩
  case round =>
    obtain ⟨i, v, us, rfl, hiL, HU, hB⟩ := hrel
    have q1 : wr.cell? ⟨w.heap.size, 1, none⟩ = some (.slice ao L cap) := (World.cell?_of_block (hB.fr.block _ hsz (by simp))).trans c1
    have hul : us.length ≤ 20 + 2000 * i := by
      have a := encWs_length (ws.take i) (fun x hx => HK.out.2.2.2 x (List.mem_of_mem_take hx))
      have b := enc_length L
      rw [HU.out, List.length_append, List.length_append]
      rw [List.length_take] at a
      have : 2000 * min i ws.length ≤ 2000 * i := Nat.mul_le_mul_left _ (Nat.min_le_left _ _)
      omega
    by_cases hi : i < L
    · have hi' : i < ws.length := by rw [← HL.out]; exact hi
      obtain ⟨b, off, rfl, _, hc⟩ := (hW0.keep hB.fr).lies (by omega)
      obtain ⟨c0', c1', c2'⟩ := hc i hi'
      have hokx := HK.out.2.2.2 _ (wgetD_mem ws i hi')
      obtain ⟨x, hxx⟩ : ∃ x, x = ws.getD i Wt.zero := ⟨_, rfl⟩
      rw [← hxx] at c0' c1' c2' hokx
      have HU2 : Hid (us ++ encW x = enc N0 ++ enc L ++ encWs (ws.take (i + 1))) := by
        show _ = _
        rw [wtake_snoc ws i hi', encWs_snoc, ← hxx, HU.out]
        simp only [List.append_assoc]
      clear hxx hc
      obtain ⟨key, val, drop⟩ := x
      have hx1 := hokx.2.1
      have hx2 := hokx.2.2.1
      clear hokx
      simp only at c0' c1' c2' hx1 hx2
      go_wp2_with fail
      refine (put_any g v us _ key val drop _ hB.wr hx1 hx2 (by omega) rfl).mono ?_
      rintro e w5 ⟨rfl, v5, hW5, hF5, hM5⟩
      have hB5 := hB.next hW5 hF5 hM5
      clear hW5 hF5 hM5
      go_wp2
      go_roundw
      case rel => exact ⟨i + 1, v5, _, by simp, by omega, HU2, hB5⟩
      case measure => simp [RowKit.intOf]; omega
    · have HU3 : Hid (us = ys) := by
        show us = ys
        rw [HU.out, HY.out, List.take_of_length_le (by rw [← HL.out]; omega), HL.out, List.append_assoc]
        rfl
      have hB' : WB w0 wr g v ys := HU3.out ▸ hB
      have hyl : 0 < ys.length ∧ ys.length < 2^41 := by
        have := encT_length N0 ws HK.out
        rw [HY.out]
        omega
      go_wp2_with fail
      refine (done_some g v ys _ hB'.wr hyl.1 hyl.2).mono ?_
      rintro e w5 ⟨rfl, hrow, hF5⟩
      rw [← HN.out]
      have hs := hB.fr.size
      have hs0 := hF0.size
      go_wp2
      go_ret2
      exact ⟨_, rfl, by omega, hrow, hF0.then (hB.fr.then hF5)⟩
end Go.Proofs.YtaefninikmaiiaaGreatDoor
/- What one step of the program's sum answers. Conditions: a number of 32 bits. -/
namespace Go.Proofs.YtaefninikmaiiaaGreatDoor
open Go.ChangeShapes Go.WideShapes Go.ChangeAt Go.RowKit Go.Lib

theorem and_one (c : Nat) (h : c < 4294967296) : bits .and .u32 (c : Int) 1 = ((c % 2 : Nat) : Int) := by
  rw [show (1 : Int) = ((1 : Nat) : Int) from rfl, u32_and_nat c 1 h (by omega), Nat.and_one_is_mod]

set_option maxHeartbeats 1000000 in
theorem shift_any (c : Nat) (w : World) (h : c < 4294967296) :
    Calls Tryz.prog 196 #[.int .u32 (c : Int)] w fun e w' => e = .returned (.int .u32 ((sh c : Nat) : Int)) ∧ w = w' := by
  have hand := and_one c h
  by_cases hp : c % 2 = 1
  · have E : Hid (sh c = (c / 2) ^^^ 2197175160) := by show _ = _; unfold sh; rw [if_pos hp]
    rw [hp] at hand
    have hx : bits .xor .u32 ((c : Int) / 2) 2197175160 = (((c / 2) ^^^ 2197175160 : Nat) : Int) := by
      have := u32_xor_nat (c / 2) 2197175160 (by omega) (by omega)
      simpa using this
    have HX : Hid (bits .xor .u32 ((c : Int) / 2) 2197175160 = (((c / 2) ^^^ 2197175160 : Nat) : Int)) := hx
    clear hx
    go_enter Tryz.func196, Tryz.ntmps196
    go_wp2
    go_ret
    rw [E.out]
    exact ⟨by rw [← HX.out]; rfl, rfl⟩
  · have E : Hid (sh c = c / 2) := by show _ = _; unfold sh; rw [if_neg hp]
    rw [show c % 2 = 0 by omega] at hand
    go_enter Tryz.func196, Tryz.ntmps196
    go_wp2
    go_ret
    rw [E.out]
    exact ⟨by simp, rfl⟩
end Go.Proofs.YtaefninikmaiiaaGreatDoor
/- What the table of the sums of single bytes is. No conditions. -/
namespace Go.Proofs.YtaefninikmaiiaaGreatDoor
open Go.ChangeShapes Go.WideShapes Go.ChangeAt Go.RowKit Go.Lib

/-- Numbers of 32 bits as cells. -/
def u32s (xs : List Nat) : List Value := xs.map fun (x : Nat) => Value.int .u32 (x : Int)
theorem u32s_length (xs : List Nat) : (u32s xs).length = xs.length := by simp [u32s]
theorem u32s_get (xs : List Nat) (j : Nat) (h : j < xs.length) : (u32s xs)[j]? = some (.int .u32 ((xs.getD j 0 : Nat) : Int)) := by
  simp [u32s, List.getD, h]
theorem u32s_set (xs : List Nat) (j x : Nat) : u32s (xs.set j x) = (u32s xs).set j (.int .u32 (x : Int)) := by
  simp [u32s, List.map_set]

theorem Tryz.infoArr : (Tryz.prog.info? 227).map (fun i => (i.zero, i.size, i.bytes)) = some (some (.agg (u32s (T1 0)).toArray), 256, 1024) := by kernel_rfl
theorem zeroArr : ∃ Z : Array Value, Hid (Z = (u32s (T1 0)).toArray) ∧ Z.size = 256 ∧ (¬ Z = #[]) ∧ ∀ w, (zeroValue 227).run Tryz.prog w = .ok (.agg Z) w := by
  refine ⟨_, rfl, by simp only [List.size_toArray, u32s_length, T1_length], ?_, fun w => ?_⟩
  · intro h
    have := congrArg Array.size h
    simp only [List.size_toArray, u32s_length, T1_length] at this
    exact absurd this (by decide)
  · obtain ⟨i, hi, hz, _, _⟩ := info_parts Tryz.infoArr
    simp [zeroValue, typeInfo, hi, hz]

theorem row_setCell {w : World} {b j : Nat} {cs : Array Value} {t : TypeId} (x : Value) (h : w.heap[b]? = some (.cells cs t (0, 0))) : (w.setCell ⟨b, j, none⟩ x).heap[b]? = some (.cells (cs.setIfInBounds j x) t (0, 0)) := by
  have hlt := lt_of_block h
  have h' : w.heap[b] = .cells cs t (0, 0) := by simpa [Array.getElem?_eq_getElem hlt] using h
  show (w.heap.modify b _)[b]? = _
  rw [Array.getElem?_eq_getElem (by simpa using hlt), Array.getElem_modify_self, h']
  rfl
/-- A table of 256 numbers in a block. -/
def Tb (w : World) (g : Nat) (xs : List Nat) : Prop := w.heap[g]? = some (.cells (u32s xs).toArray 227 (0, 0)) ∧ xs.length = 256
theorem Tb.cell {w : World} {g : Nat} {xs : List Nat} (h : Tb w g xs) (j : Nat) (hj : j < 256) : w.cell? ⟨g, j, none⟩ = some (.int .u32 ((xs.getD j 0 : Nat) : Int)) := by
  rw [cell_of_row _ _ _ _ _ _ h.1]
  simpa using u32s_get xs j (by rw [h.2]; exact hj)
theorem Tb.free {w : World} {g : Nat} {xs : List Nat} (h : Tb w g xs) (j : Nat) : w.frozen? ⟨g, j, none⟩ = false := by simp [World.frozen?, h.1]
theorem Tb.put {w : World} {g : Nat} {xs : List Nat} (h : Tb w g xs) (j x : Nat) : Tb (w.setCell ⟨g, j, none⟩ (.int .u32 (x : Int))) g (xs.set j x) := by
  refine ⟨?_, by rw [List.length_set, h.2]⟩
  rw [row_setCell _ h.1, u32s_set]
  simp
theorem Tb.keep {S : List Nat} {w w' : World} {g : Nat} {xs : List Nat} (h : Tb w g xs) (hf : Fr S w w') (hn : g ∉ S) : Tb w' g xs := ⟨hf.keep h.1 hn, h.2⟩

theorem getD_lt (xs : List Nat) (B j : Nat) (hB : 0 < B) (h : ∀ x ∈ xs, x < B) : xs.getD j 0 < B := by
  by_cases hj : j < xs.length
  · rw [show xs.getD j 0 = xs[j] from by simp [List.getD, hj]]
    exact h _ (List.getElem_mem _)
  · rw [show xs.getD j 0 = 0 from by simp [List.getD, show xs.length ≤ j by omega]]
    exact hB
theorem T1_all (i : Nat) : ∀ x ∈ T1 i, x < 4294967296 := by
  induction i with
  | zero => intro x hx; rw [List.eq_of_mem_replicate hx]; omega
  | succ i ih =>
    intro x hx
    rcases List.mem_or_eq_of_mem_set hx with hx | rfl
    · exact ih x hx
    · exact shN_lt _ _ (by omega)
theorem T2_all (i : Nat) : ∀ x ∈ T2 i, x < 4294967296 := by
  induction i with
  | zero => exact T1_all 8
  | succ i ih =>
    intro x hx
    rcases List.mem_or_eq_of_mem_set hx with hx | rfl
    · exact ih x hx
    · exact Nat.xor_lt_two_pow (n := 32) (getD_lt _ _ _ (by omega) ih) (getD_lt _ _ _ (by omega) ih)
theorem T2_lt (i j : Nat) : (T2 i).getD j 0 < 4294967296 := getD_lt _ _ _ (by omega) (T2_all i)
theorem and_pred0 : ∀ i : Fin 256, bits .and .i64 ((i.val : Nat) : Int) (((i.val : Nat) : Int) - 1) = ((i.val &&& (i.val - 1) : Nat) : Int) := by decide +kernel
theorem and_pred (i : Nat) (h : i < 256) : bits .and .i64 (i : Int) ((i : Int) - 1) = ((i &&& (i - 1) : Nat) : Int) := and_pred0 ⟨i, h⟩

set_option maxHeartbeats 4000000 in
set_option maxRecDepth 100000 in
theorem byteSums_any (w : World) :
    Calls Tryz.prog 177 #[] w fun e w' => e = .returned (.agg (u32s tab).toArray) ∧ Fr [] w w' := by
  obtain ⟨Z, HZ, hZs, hZn, hz⟩ := zeroArr
  go_enter Tryz.func177, Tryz.ntmps177
  go_wp2_with fail
  obtain ⟨g, hg⟩ : ∃ g, g = w.heap.size := ⟨_, rfl⟩
  have hT0 : Tb ((w.alloc (.cells Z 227)).alloc (.cells Z 227)) (g + 1) (T1 0) := by
    refine ⟨?_, T1_length 0⟩
    rw [← HZ.out, hg]
    have := heap_alloc_new (w.alloc (.cells Z 227)) (.cells Z 227)
    simpa using this
  have hR0 : Tb ((w.alloc (.cells Z 227)).alloc (.cells Z 227)) g (T1 0) := by
    refine Tb.keep ?_ (Fr.alloc [] _ _) (by simp)
    refine ⟨?_, T1_length 0⟩
    rw [← HZ.out, hg]
    exact heap_alloc_new w _
  have hF0 : Fr [] w ((w.alloc (.cells Z 227)).alloc (.cells Z 227)) := (Fr.alloc [] _ _).then (Fr.alloc [] _ _)
  rw [← hg]
  have HG : Hid (w.heap.size ≤ g) := by show _ ≤ _; omega
  clear hg
  go_loopw [2, 6] (fun cc ii wr => ∃ i : Nat, cc = .int .u32 ((shN i 1 : Nat) : Int) ∧ ii = .int .i64 i ∧ i ≤ 8 ∧ Tb wr (g + 1) (T1 i) ∧ Tb wr g (T1 0) ∧ Fr [] w wr) (fun _ ii _ => 8 - (RowKit.intOf ii).toNat)
  case atStart => exact ⟨0, rfl, rfl, by omega, hT0, hR0, hF0⟩
  case round =>
    obtain ⟨i, rfl, rfl, hi8, hT, hR, hF⟩ := hrel
    by_cases hi : i < 8
    · have hc := shN_lt i 1 (by omega)
      obtain ⟨c, HC⟩ : ∃ c, Hid (c = shN i 1) := ⟨_, rfl⟩
      rw [← HC.out] at hc ⊢
      go_wp2_with fail
      refine (shift_any c _ hc).mono ?_
      rintro e w1 ⟨rfl, rfl⟩
      obtain ⟨J, HJ⟩ : ∃ J : Nat, Hid (J = 128 / 2 ^ i) := ⟨_, rfl⟩
      have hJ : J < 256 := by
        have := Nat.div_le_self 128 (2 ^ i)
        have := HJ.out
        omega
      have hsh : (128 : Int) / 2 ^ i = (J : Int) := by rw [HJ.out]; simp
      have hcell := hT.cell J hJ
      have hfree := hT.free J
      have hT' : Tb (wr.setCell ⟨g + 1, J, none⟩ (.int .u32 ((sh c : Nat) : Int))) (g + 1) (T1 (i + 1)) := by
        have := hT.put J (sh c)
        rw [HC.out, ← shN_succ, HJ.out] at this
        rw [HC.out, ← shN_succ, HJ.out]
        exact this
      have hfr : Fr [g + 1] wr (wr.setCell ⟨g + 1, J, none⟩ (.int .u32 ((sh c : Nat) : Int))) := Fr.set _ _ _ (by simp)
      have hR' := hR.keep hfr (by simp)
      have hgw : w.heap.size ≤ g := HG.out
      have hF' := hF.on hfr (by intro x hx; simp at hx; omega)
      have HS : Hid (sh c = shN (i + 1) 1) := by show _ = _; rw [HC.out, ← shN_succ]
      clear hT hR hF hfr hgw
      go_wp2_with fail
      go_roundw
      case rel => exact ⟨i + 1, by rw [HS.out], by simp, by omega, hT', hR', hF'⟩
      case measure => simp [RowKit.intOf]; omega
    · obtain rfl : i = 8 := by omega
      go_wp2_with fail
      go_loopw [16] (fun ii wr => ∃ i : Nat, ii = .int .i64 i ∧ i ≤ 256 ∧ Tb wr (g + 1) (T2 i) ∧ Tb wr g (T1 0) ∧ Fr [] w wr) (fun ii _ => 256 - (RowKit.intOf ii).toNat)
      case atStart => exact ⟨0, rfl, by omega, hT, hR, hF⟩
      case round =>
        clear hT hR hF
        obtain ⟨i, rfl, hi8, hT, hR, hF⟩ := hrel
        by_cases hi : i < 256
        · obtain ⟨R, HR⟩ : ∃ R, Hid (R = i &&& (i - 1)) := ⟨_, rfl⟩
          have hRi : R ≤ i := by rw [HR.out]; exact Nat.and_le_left
          have hand : bits .and .i64 (i : Int) ((i : Int) - 1) = (R : Int) := by rw [HR.out]; exact and_pred i hi
          obtain ⟨D, HD⟩ : ∃ D, Hid (D = i - R) := ⟨_, rfl⟩
          have hD : (i : Int) - (R : Int) = (D : Int) := by have := HD.out; omega
          have hD256 : D < 256 := by have := HD.out; omega
          have hR256 : R < 256 := by omega
          have hc1 := hT.cell R hR256
          have hc2 := hT.cell D hD256
          have hc3 := hT.cell i hi
          have hf3 := hT.free i
          have hX := T2_lt i R
          have hY := T2_lt i D
          obtain ⟨X, HX⟩ : ∃ X, Hid (X = (T2 i).getD R 0) := ⟨_, rfl⟩
          obtain ⟨Y, HY⟩ : ∃ Y, Hid (Y = (T2 i).getD D 0) := ⟨_, rfl⟩
          rw [← HX.out] at hc1 hX
          rw [← HY.out] at hc2 hY
          have hxor := u32_xor_nat X Y hX hY
          have hT' : Tb (wr.setCell ⟨g + 1, i, none⟩ (.int .u32 ((X ^^^ Y : Nat) : Int))) (g + 1) (T2 (i + 1)) := by
            have := hT.put i (X ^^^ Y)
            rw [HX.out, HY.out, HD.out, HR.out] at this
            rw [HX.out, HY.out, HD.out, HR.out]
            exact this
          have hfr : Fr [g + 1] wr (wr.setCell ⟨g + 1, i, none⟩ (.int .u32 ((X ^^^ Y : Nat) : Int))) := Fr.set _ _ _ (by simp)
          have hR' := hR.keep hfr (by simp)
          have hgw : w.heap.size ≤ g := HG.out
          have hF' := hF.on hfr (by intro x hx; simp at hx; omega)
          clear hT hR hF hfr hgw hX hY
          go_wp2_with fail
          go_region
          have hd := Fr.drew [] (wr.setCell ⟨g + 1, i, none⟩ (.int .u32 ((X ^^^ Y : Nat) : Int)))
          have hT2 := hT'.keep hd (by simp)
          have hR2 := hR'.keep hd (by simp)
          have hF2 := hF'.then hd
          clear hT' hR' hF' hd
          go_wp2_with fail
          go_roundw
          case rel => exact ⟨i + 1, by simp, by omega, hT2, hR2, hF2⟩
          case measure => simp [RowKit.intOf]; omega
        · obtain rfl : i = 256 := by omega
          obtain ⟨C, HC⟩ : ∃ C : Array Value, Hid (C = (u32s tab).toArray) := ⟨_, rfl⟩
          obtain ⟨O, HO⟩ : ∃ O : Array Value, Hid (O = (u32s (T1 0)).toArray) := ⟨_, rfl⟩
          have hC : C.size = 256 := by rw [HC.out, ← tab_eq]; simp only [List.size_toArray, u32s_length, T2_length]
          have hO : O.size = C.size := by rw [HO.out, hC]; simp only [List.size_toArray, u32s_length, T1_length]
          have hone : C.all (·.oneCell') = true := by
            rw [HC.out, List.all_toArray, List.all_eq_true]
            intro u hu
            obtain ⟨_, _, rfl⟩ := List.mem_map.1 hu
            rfl
          have h1 : wr.heap[g + 1]? = some (.cells C 227 (0, 0)) := by rw [hT.1, HC.out, tab_eq]
          have h0 : wr.heap[g]? = some (.cells O 227 (0, 0)) := by rw [hR.1, HO.out]
          have hi36 : (Tryz.prog.info? 227).map (·.size) = some C.size := by
            obtain ⟨i, hi, _, hz, _⟩ := info_parts Tryz.infoArr
            rw [hi, hC]
            simp [hz]
          have hrow := setRow_heap wr g O C 227 (0, 0) h0
          have hF2 : Fr [] w (wr.setRow g C) := hF.on (Fr.setRow wr g C) (by have := HG.out; intro x hx; simp at hx; omega)
          clear hT hR hF hC
          go_wp2_with (first | refine wpList_load_row rfl 227 _ rfl (g + 1) rfl 227 C (0, 0) _ h1 Tryz.underlying227 rfl hi36 ?_ | refine wpList_store_row rfl 227 _ _ rfl g C rfl rfl 227 O h0 hi36 hO hone ?_)
          refine bodyPost_ret (v := .agg C) (results_cell_row rfl _ _ g 227 C (0, 0) _ rfl hrow Tryz.underlying227 rfl hi36) rfl ⟨by rw [HC.out], hF2⟩
end Go.Proofs.YtaefninikmaiiaaGreatDoor
/- What CRC, More and Hash answer, and the document's CRC, More and Hash. Conditions: a slice of bytes that came in, a sum of 32 bits. -/
namespace Go.Proofs.YtaefninikmaiiaaGreatDoor
open Go.ChangeShapes Go.WideShapes Go.ChangeAt Go.RowKit Go.Lib

theorem take_snoc (xs : List Nat) (i x : Nat) (h : i < xs.length) (hx : x = xs.getD i 0) : xs.take (i + 1) = xs.take i ++ [x] := by
  have hget : xs[i]? = some x := by rw [hx, List.getD, List.getElem?_eq_getElem h]; rfl
  rw [List.take_add_one, hget]
  rfl
theorem getD_mem_lt (xs : List Nat) (i : Nat) (h : i < xs.length) (hl : ∀ x ∈ xs, x < 256) : xs.getD i 0 < 256 := by
  rw [show xs.getD i 0 = xs[i] from by simp [List.getD, h]]
  exact hl _ (List.getElem_mem _)

theorem not_u32 (s : Nat) (h : s < 4294967296) : bits .xor .u32 IntKind.u32.max (s : Int) = ((4294967295 - s : Nat) : Int) := by
  have e : (IntKind.u32.max : Int) = ((4294967295 : Nat) : Int) := by decide
  rw [e, u32_xor_nat _ _ (by omega) h, Nat.xor_comm]
  have h2 : (BitVec.ofNat 32 s ^^^ BitVec.allOnes 32).toNat = (~~~ (BitVec.ofNat 32 s)).toNat := by rw [BitVec.xor_allOnes]
  rw [BitVec.toNat_xor, BitVec.toNat_not, BitVec.toNat_allOnes, BitVec.toNat_ofNat, Nat.mod_eq_of_lt (by simpa using h)] at h2
  have e2 : s ^^^ 4294967295 = 4294967295 - s := by simpa using h2
  rw [e2]

set_option maxHeartbeats 4000000 in
set_option maxRecDepth 100000 in
theorem more_any (s m : Nat) (ao : Option Addr) (L cap : Nat) (xs : List Nat) (w : World) (hs : s < 4294967296) (hA : BArg w ao L cap xs) (hm : more s xs = m) :
    Calls Tryz.prog 156 #[.int .u32 (s : Int), .slice ao L cap] w fun e w' => e = .returned (.int .u32 (m : Int)) ∧ Fr [] w w' := by
  have HM : Hid (more s xs = m) := hm
  clear hm
  have HL : Hid (L = xs.length) := hA.len
  have hLm := hA.most
  obtain ⟨Z, HZ, hZs, hZn, hz⟩ := zeroArr
  obtain ⟨C, HC⟩ : ∃ C : Array Value, Hid (C = (u32s tab).toArray) := ⟨_, rfl⟩
  have hC : C.size = 256 := by rw [HC.out, ← tab_eq]; simp only [List.size_toArray, u32s_length, T2_length]
  have hO : Z.size = C.size := by rw [hZs, hC]
  have hone : C.all (·.oneCell') = true := by
    rw [HC.out, List.all_toArray, List.all_eq_true]
    intro u hu
    obtain ⟨_, _, rfl⟩ := List.mem_map.1 hu
    rfl
  have hi36 : (Tryz.prog.info? 227).map (·.size) = some C.size := by
    obtain ⟨i, hi, _, hz, _⟩ := info_parts Tryz.infoArr
    rw [hi, hC]
    simp [hz]
  go_enter Tryz.func156, Tryz.ntmps156
  go_wp2_with fail
  refine (byteSums_any _).mono ?_
  rintro e w1 ⟨rfl, hF1⟩
  rw [← HC.out]
  have h0 : (w1.alloc (.cells Z 227)).heap[w1.heap.size]? = some (.cells Z 227 (0, 0)) := heap_alloc_new w1 _
  have hnot := not_u32 s hs
  go_wp2_with (refine wpList_store_row rfl 227 _ _ rfl w1.heap.size C rfl rfl 227 Z h0 hi36 hO hone ?_)
  have hF2 : Fr [] w ((w1.alloc (.cells Z 227)).setRow w1.heap.size C) := ((hF1.then (Fr.alloc [] _ _)).on (Fr.setRow _ w1.heap.size C) (by have := hF1.size; intro x hx; simp at hx; omega))
  have hrow := setRow_heap _ w1.heap.size Z C 227 (0, 0) h0
  obtain ⟨wc, hwc⟩ : ∃ wc, wc = (w1.alloc (.cells Z 227)).setRow w1.heap.size C := ⟨_, rfl⟩
  obtain ⟨g, hg⟩ : ∃ g, g = w1.heap.size := ⟨_, rfl⟩
  rw [← hwc] at hF2 hrow ⊢
  rw [← hg] at hrow ⊢
  have hTb : Tb wc g tab := ⟨by rw [hrow, HC.out], by rw [← tab_eq, T2_length]⟩
  have hB := hA.keep hF2
  clear hwc hg hrow h0 hA hz hZn hZs hO hone hi36 hF1 hC hnot
  obtain ⟨c0, HC0⟩ : ∃ c0, Hid (c0 = 4294967295 - s) := ⟨_, rfl⟩
  rw [← HC0.out]
  have hc0 : c0 < 4294967296 := by have := HC0.out; omega
  go_loop [6, 14] (fun cc ii => ∃ (c i : Nat), cc = .int .u32 (c : Int) ∧ ii = .int .i64 i ∧ i ≤ L ∧ c < 4294967296 ∧ Hid (c = runB c0 (xs.take i))) (fun _ ii => L - (RowKit.intOf ii).toNat)
  case atStart => exact ⟨c0, 0, rfl, rfl, Nat.zero_le _, hc0, rfl⟩
  case round =>
    obtain ⟨c, i, rfl, rfl, hi, hc, HR⟩ := hrel
    by_cases hiL : i < L
    · obtain ⟨b, off, e, _, hcs⟩ := hB.lies (by omega)
      subst e
      have hcx := hcs i hiL
      have hx := getD_mem_lt xs i (by rw [← HL.out]; exact hiL) hB.low
      obtain ⟨x, HX⟩ : ∃ x, Hid (x = xs.getD i 0) := ⟨_, rfl⟩
      rw [← HX.out] at hcx hx
      obtain ⟨V, HV⟩ : ∃ V, Hid (V = (c % 256) ^^^ x) := ⟨_, rfl⟩
      have hV : V < 256 := by rw [HV.out]; exact Nat.xor_lt_two_pow (n := 8) (by omega) hx
      have hx8 : bits .xor .u8 ((c : Int) % 256) (x : Int) = (V : Int) := by
        have := u8_xor_nat (c % 256) x (by omega) hx
        rw [← HV.out] at this
        simpa using this
      have hcell := hTb.cell V hV
      rw [tab_get V hV] at hcell
      have hxor : bits .xor .u32 ((c : Int) / 256) ((shN 8 V : Nat) : Int) = ((stepB c x : Nat) : Int) := by
        have := u32_xor_nat (c / 256) (shN 8 V) (by omega) (shN_lt 8 V (by omega))
        rw [stepB_look, ← HV.out, ← this]
        simp
      have hc' := stepB_lt c x hc hx
      have HR' : Hid (stepB c x = runB c0 (xs.take (i + 1))) := by
        show _ = _
        rw [take_snoc xs i x (by rw [← HL.out]; exact hiL) HX.out, runB_snoc, ← HR.out]
      clear hcs hTb hB
      go_wp2_with fail
      go_round
      case rel => exact ⟨stepB c x, i + 1, rfl, by simp, by omega, hc', HR'⟩
      case measure => simp [RowKit.intOf]; omega
    · obtain rfl : i = L := by omega
      have hn := not_u32 c hc
      have HM' : Hid (4294967295 - c = m) := by
        show _ = _
        rw [← HM.out, more, ← HC0.out, HR.out, List.take_of_length_le (by rw [← HL.out]; omega)]
      rw [HM'.out] at hn
      go_wp2_with fail
      go_ret
      exact ⟨rfl, hF2⟩
end Go.Proofs.YtaefninikmaiiaaGreatDoor
/- Transactions in memory: slices of them that read as a list, rows of them. Conditions as each lemma names them. -/
namespace Go.Proofs.YtaefninikmaiiaaGreatDoor
open Go.ChangeShapes Go.WideShapes Go.ChangeAt Go.RowKit Go.Lib
set_option linter.unusedVariables false

/-- A transaction, and where its writes lie. -/
structure Tm where
  n : Int
  ao : Option Addr
  L : Nat
  cap : Nat
  ws : List Wt
def Tm.zero : Tm := ⟨0, none, 0, 0, []⟩
def Tm.tx (t : Tm) : Tx := ⟨t.n, t.ws⟩
def Tm.val (t : Tm) : Value := .agg #[.int .i64 t.n, .slice t.ao t.L t.cap]
def txs (ts : List Tm) : List Tx := ts.map Tm.tx
theorem txs_length (ts : List Tm) : (txs ts).length = ts.length := by simp [txs]
theorem txs_getD (ts : List Tm) (i : Nat) : (txs ts).getD i Tx.zero = (ts.getD i Tm.zero).tx := by
  by_cases h : i < ts.length
  · simp [txs, List.getD, h]
  · simp [txs, List.getD, h, Tm.zero, Tm.tx, Tx.zero]
theorem txs_take (ts : List Tm) (i : Nat) : (txs ts).take i = txs (ts.take i) := by simp [txs, List.map_take]
theorem txs_append (a b : List Tm) : txs (a ++ b) = txs a ++ txs b := by simp [txs]
/-- It is there. -/
def Tm.at (t : Tm) (w : World) : Prop := TArg w t.n t.ao t.L t.cap t.ws
theorem Tm.at.keep {t : Tm} {w w' : World} (h : t.at w) (hf : Fr [] w w') : t.at w' := TArg.keep h hf
theorem Tm.zero_at (w : World) : Tm.zero.at w := ⟨WRs.nil _ _, rfl, by decide, by decide⟩
/-- Its struct lies at o in block b. -/
structure TAt (w : World) (b o : Nat) (t : Tm) : Prop where
  c0 : w.cell? ⟨b, o, none⟩ = some (.int .i64 t.n)
  c1 : w.cell? ⟨b, o + 1, none⟩ = some (.slice t.ao t.L t.cap)
/-- The slice at ao reads as the transactions ts. -/
structure TRs (w : World) (ao : Option Addr) (ts : List Tm) : Prop where
  lies : 0 < ts.length → ∃ b off, ao = some ⟨b, off, none⟩ ∧ b < w.heap.size ∧ ∀ i, i < ts.length → TAt w b (off + i * 2) (ts.getD i Tm.zero)
  few : ts.length ≤ 140737488355328
  each : ∀ t ∈ ts, t.at w
theorem TRs.nil (w : World) (ao : Option Addr) : TRs w ao [] := ⟨fun h => by simp at h, by simp, by simp⟩
theorem TRs.keep {w w' : World} {ao : Option Addr} {ts : List Tm} (h : TRs w ao ts) (hf : Fr [] w w') : TRs w' ao ts := by
  refine ⟨fun h0 => ?_, h.few, fun t ht => (h.each t ht).keep hf⟩
  obtain ⟨b, off, e, hb, hc⟩ := h.lies h0
  have hk : ∀ o, w'.cell? ⟨b, o, none⟩ = w.cell? ⟨b, o, none⟩ := fun o => World.cell?_of_block (hf.block b hb (by simp))
  exact ⟨b, off, e, Nat.lt_of_lt_of_le hb hf.size, fun i hi => ⟨(hk _).trans (hc i hi).c0, (hk _).trans (hc i hi).c1⟩⟩
theorem tgetD_mem (ts : List Tm) (i : Nat) (h : i < ts.length) : ts.getD i Tm.zero ∈ ts := by simp [List.getD, h]
theorem ttake_snoc (ts : List Tm) (i : Nat) (h : i < ts.length) : ts.take (i + 1) = ts.take i ++ [ts.getD i Tm.zero] := by
  rw [List.take_add_one]
  simp [List.getD, h]
theorem TRs.take {w : World} {ao : Option Addr} {ts : List Tm} (h : TRs w ao ts) (k : Nat) : TRs w ao (ts.take k) := by
  refine ⟨fun h0 => ?_, by have := h.few; rw [List.length_take]; omega, fun t ht => h.each t (List.mem_of_mem_take ht)⟩
  rw [List.length_take] at h0
  obtain ⟨b, off, e, hb, hc⟩ := h.lies (by omega)
  refine ⟨b, off, e, hb, fun i hi => ?_⟩
  rw [List.length_take] at hi
  have e2 : (ts.take k).getD i Tm.zero = ts.getD i Tm.zero := by
    have : i < k := by omega
    simp [List.getD, this]
  rw [e2]
  exact hc i (by omega)
/-- A transaction's cells. -/
def tmC (t : Tm) : List Value := [.int .i64 t.n, .slice t.ao t.L t.cap]
def tmsC : List Tm → List Value
  | [] => []
  | t :: r => tmC t ++ tmsC r
theorem tmsC_append (a b : List Tm) : tmsC (a ++ b) = tmsC a ++ tmsC b := by
  induction a with
  | nil => rfl
  | cons v r ih => simp [tmsC, ih]
theorem tmsC_length (a : List Tm) : (tmsC a).length = a.length * 2 := by
  induction a with
  | nil => rfl
  | cons v r ih => simp only [tmsC, tmC, List.length_append, List.length_cons, List.length_nil, ih]; omega
theorem tmsC_get (a : List Tm) (j c : Nat) (hj : j < a.length) (hc : c < 2) : (tmsC a)[j * 2 + c]? = (tmC (a.getD j Tm.zero))[c]? := by
  induction a generalizing j with
  | nil => simp at hj
  | cons v r ih =>
    cases j with
    | zero =>
      simp only [tmsC, Nat.zero_mul, Nat.zero_add]
      rw [List.getElem?_append_left (by simp [tmC]; omega)]
      simp
    | succ j =>
      simp only [tmsC]
      rw [List.getElem?_append_right (by simp [tmC]; omega)]
      have e : (j + 1) * 2 + c - (tmC v).length = j * 2 + c := by simp [tmC]; omega
      rw [e, ih j (by simpa using hj)]
      simp
theorem tmsC_oneCell (a : List Tm) : ∀ u ∈ tmsC a, u.oneCell' = true := by
  induction a with
  | nil => intro u hu; simp [tmsC] at hu
  | cons v r ih =>
    intro u hu
    rcases List.mem_append.1 hu with h | h
    · simp only [tmC, List.mem_cons, List.not_mem_nil, or_false] at h
      rcases h with rfl | rfl <;> rfl
    · exact ih u h
theorem TRs.of_row {w : World} {b : Nat} {ts : List Tm} {rest : List Value} {t : TypeId} {f : Nat × Nat} (h : w.heap[b]? = some (.cells (tmsC ts ++ rest).toArray t f)) (hl : ts.length ≤ 140737488355328) (he : ∀ t ∈ ts, t.at w) : TRs w (some ⟨b, 0, none⟩) ts := by
  refine ⟨fun _ => ⟨b, 0, rfl, lt_of_block h, fun i hi => ?_⟩, hl, he⟩
  have key : ∀ c, c < 2 → w.cell? ⟨b, 0 + i * 2 + c, none⟩ = (tmC (ts.getD i Tm.zero))[c]? := by
    intro c hc
    rw [cell_of_row _ _ _ _ _ _ h, Nat.zero_add, ← tmsC_get ts i c hi hc]
    have hlt : i * 2 + c < (tmsC ts).length := by rw [tmsC_length]; omega
    simp [List.getElem?_append_left hlt]
  exact ⟨key 0 (by omega), key 1 (by omega)⟩
/-- Its number is one of 64 bits. -/
theorem Tm.at.bounds {t : Tm} {w : World} (h : t.at w) : -9223372036854775808 ≤ t.n ∧ t.n ≤ 9223372036854775807 := ⟨h.n0, h.n1⟩
end Go.Proofs.YtaefninikmaiiaaGreatDoor
/- What == and != say of two writes. No conditions. -/
namespace Go.Proofs.YtaefninikmaiiaaGreatDoor
open Go.ChangeShapes Go.WideShapes Go.ChangeAt Go.RowKit Go.Lib
set_option linter.unusedVariables false
theorem Tryz.undWt : Tryz.prog.underlying 124 = some (.struct (Tryz.prog.fieldsOf 124)) := by kernel_rfl
theorem Tryz.heldWt : Tryz.prog.stoodInHeld 124 = false := by kernel_rfl
theorem Tryz.guardWt : Tryz.prog.eqGuardType Tryz.prog.depth 124 = false := by kernel_rfl
theorem Tryz.fieldsWt : (Tryz.prog.fieldsOf 124).toList.map (fun f => (f.name == "_", f.type, f.offset)) = [(false, 9, 0), (false, 9, 1), (false, 4, 2)] := by kernel_rfl
theorem Tryz.undBool : Tryz.prog.underlying 4 = some .bool := by kernel_rfl
theorem Tryz.infoStr1 : (Tryz.prog.info? 9).map (fun i => i.size) = some 1 := by kernel_rfl
theorem Tryz.infoBool1 : (Tryz.prog.info? 4).map (fun i => i.size) = some 1 := by kernel_rfl
theorem part_str (w : World) (cs : Array Value) (off : Nat) (v : Value) (h : cs[off]? = some v) : (part 9 cs off).run Tryz.prog w = .ok v w := by
  simp [part, isAgg, run_underlying Tryz.undStr, h, Sem.run_bind]
theorem part_bool (w : World) (cs : Array Value) (off : Nat) (v : Value) (h : cs[off]? = some v) : (part 4 cs off).run Tryz.prog w = .ok v w := by
  simp [part, isAgg, run_underlying Tryz.undBool, h, Sem.run_bind]
theorem eq_str (w : World) (a b : ByteArray) : (Op.equalIn 9999 9 (.string a) (.string b)).run Tryz.prog w = .ok (a.toList == b.toList) w := run_equalIn_string w 9998 _ a b Tryz.undStr
theorem eq_bool (w : World) (a b : Bool) : (Op.equalIn 9999 4 (.bool a) (.bool b)).run Tryz.prog w = .ok (a == b) w := run_equalIn_bool w 9998 _ a b Tryz.undBool
theorem step_field {P : Program} {w : World} {A B : Sem Value} {E : Value → Value → Sem Bool} {K : Sem Bool} {a b : Value} {r : Bool} (hA : A.run P w = .ok a w) (hB : B.run P w = .ok b w) (hE : (E a b).run P w = .ok r w) :
    (do let a ← A; let b ← B; let r ← E a b; if (!r) = true then pure false else K : Sem Bool).run P w = if r = true then K.run P w else .ok false w := by
  simp only [Sem.run_bind, hA, hB, hE, Result.andThen_ok]
  cases r <;> simp
set_option maxRecDepth 100000 in
theorem wt_fields (w : World) (k1 v1 k2 v2 : ByteArray) (p1 p2 : Bool) : (Op.equalIn 10000 124 (.agg #[.string k1, .string v1, .bool p1]) (.agg #[.string k2, .string v2, .bool p2])).run Tryz.prog w = .ok (k1.toList == k2.toList && (v1.toList == v2.toList && p1 == p2)) w := by
  rw [run_equalIn_struct w 9999 _ _ _ Tryz.undWt Tryz.heldWt]
  have hF := Tryz.fieldsWt
  obtain ⟨l, hl⟩ : ∃ l, l = (Tryz.prog.fieldsOf 124).toList := ⟨_, rfl⟩
  rw [← hl] at hF ⊢
  match l, hF with
  | [f0, f1, f2], hF =>
    simp only [List.map_cons, List.map_nil, List.cons.injEq, Prod.mk.injEq, and_true] at hF
    obtain ⟨⟨n0, t0, o0⟩, ⟨n1, t1, o1⟩, ⟨n2, t2, o2⟩⟩ := hF
    have m0 : f0.name ≠ "_" := by simpa using n0
    have m1 : f1.name ≠ "_" := by simpa using n1
    have m2 : f2.name ≠ "_" := by simpa using n2
    simp only [Op.eqFields, if_pos m0, if_pos m1, if_pos m2, t0, t1, t2, o0, o1, o2]
    rw [step_field (part_str w _ 0 _ rfl) (part_str w _ 0 _ rfl) (eq_str w k1 k2)]
    rw [step_field (part_str w _ 1 _ rfl) (part_str w _ 1 _ rfl) (eq_str w v1 v2)]
    rw [step_field (part_bool w _ 2 _ rfl) (part_bool w _ 2 _ rfl) (eq_bool w p1 p2)]
    cases (k1.toList == k2.toList) <;> cases (v1.toList == v2.toList) <;> cases (p1 == p2) <;> simp
/-- Are two writes the same? -/
def sameW (x y : Wt) : Bool := x.key.toList == y.key.toList && (x.val.toList == y.val.toList && x.drop == y.drop)
theorem sameW_iff (x y : Wt) : sameW x y = true ↔ x = y := by
  obtain ⟨k1, v1, p1⟩ := x
  obtain ⟨k2, v2, p2⟩ := y
  simp only [sameW, Bool.and_eq_true, beq_iff_eq, tl_inj, Wt.mk.injEq]
theorem wt_in (w : World) (x y : Wt) : (Op.equalIn 10000 124 (.agg #[.string x.key, .string x.val, .bool x.drop]) (.agg #[.string y.key, .string y.val, .bool y.drop])).run Tryz.prog w = .ok (sameW x y) w := wt_fields w _ _ _ _ _ _
theorem wt_neq (w : World) (x y : Wt) : (binOp .neq 124 (.agg #[.string x.key, .string x.val, .bool x.drop]) (.agg #[.string y.key, .string y.val, .bool y.drop])).run Tryz.prog w = .ok (.bool (!sameW x y)) w := by
  rw [run_neq_struct, wt_fields]
  rfl
theorem wt_eql (w : World) (x y : Wt) : (binOp .eql 124 (.agg #[.string x.key, .string x.val, .bool x.drop]) (.agg #[.string y.key, .string y.val, .bool y.drop])).run Tryz.prog w = .ok (.bool (sameW x y)) w := by
  rw [run_eql_struct, wt_fields]
  rfl
end Go.Proofs.YtaefninikmaiiaaGreatDoor
/- The statements' own helpers: SameWrites, SameTxn, WritesSize, TxnSize, Beyond of two; a transaction that came in. Conditions as each names them. -/
namespace Go.Proofs.YtaefninikmaiiaaGreatDoor
open Go.ChangeShapes Go.WideShapes Go.ChangeAt Go.RowKit Go.Lib
set_option linter.unusedVariables false

theorem wsame_upto (xs ys : List Wt) (hl : xs.length = ys.length) (h : ∀ j, j < xs.length → xs.getD j Wt.zero = ys.getD j Wt.zero) : xs = ys := by
  apply List.ext_getElem hl
  intro i h1 h2
  have := h i h1
  simpa [List.getD, h1, h2] using this

set_option maxHeartbeats 4000000 in
set_option maxRecDepth 100000 in
theorem sameWs_any (a b : Option Addr) (L M ca cb : Nat) (R : Bool) (xs ys : List Wt) (w : World) (ha : WRs w a xs) (hb : WRs w b ys) (hL : L = xs.length) (hM : M = ys.length) (hR : R = true ↔ xs = ys) :
    Calls Tryz.prog 94 #[.slice a L ca, .slice b M cb] w fun e w' => e = .returned (.bool R) ∧ ∃ q, w' = w.drewN q := by
  have HR : Hid (R = true ↔ xs = ys) := hR
  have HL : Hid (L = xs.length) := hL
  have HM : Hid (M = ys.length) := hM
  have hLl : L ≤ 140737488355328 := by have := ha.few; omega
  have hMl : M ≤ 140737488355328 := by have := hb.few; omega
  clear hR hL hM
  by_cases hLM : L = M
  · subst hLM
    have hne : ((L : Int) != L) = false := by simp
    by_cases h0 : 0 < L
    · obtain ⟨ba, oa, rfl, _, hca⟩ := ha.lies (by rw [← HL.out]; exact h0)
      obtain ⟨bb, ob, rfl, _, hcb⟩ := hb.lies (by rw [← HM.out]; exact h0)
      rw [← HL.out] at hca
      rw [← HM.out] at hcb
      go_enter Tryz.func94, Tryz.ntmps94
      go_wp2_with fail
      go_loopw [5] (fun ii wr => ∃ (i q : Nat), ii = .int .i64 i ∧ i ≤ L ∧ Hid (∀ j, j < i → xs.getD j Wt.zero = ys.getD j Wt.zero) ∧ wr = w.drewN q) (fun ii _ => L - (RowKit.intOf ii).toNat)
      case atStart => exact ⟨0, 0, rfl, Nat.zero_le _, fun j hj => by omega, rfl⟩
      case round =>
        obtain ⟨i, q, rfl, hiL, HE, rfl⟩ := hrel
        by_cases hi : i < L
        · obtain ⟨c0, c1, c2⟩ := hca i hi
          obtain ⟨d0, d1, d2⟩ := hcb i hi
          obtain ⟨x, hxx⟩ : ∃ x, x = xs.getD i Wt.zero := ⟨_, rfl⟩
          obtain ⟨y, hyy⟩ : ∃ y, y = ys.getD i Wt.zero := ⟨_, rfl⟩
          rw [← hxx] at c0 c1 c2
          rw [← hyy] at d0 d1 d2
          have HX : Hid (x = xs.getD i Wt.zero) := hxx
          have HY : Hid (y = ys.getD i Wt.zero) := hyy
          clear hxx hyy hca hcb
          have hq : ∀ w', (Op.equalIn 10000 124 (.agg #[.string x.key, .string x.val, .bool x.drop]) (.agg #[.string y.key, .string y.val, .bool y.drop])).run Tryz.prog w' = .ok (sameW x y) w' := fun w' => wt_in w' x y
          have hgd := Tryz.guardWt
          obtain ⟨B, hB⟩ : ∃ B, B = sameW x y := ⟨_, rfl⟩
          rw [← hB] at hq
          have HB : Hid (B = true ↔ x = y) := by rw [hB]; exact sameW_iff x y
          clear hB
          cases B with
          | true =>
            have hxy : x = y := HB.out.1 rfl
            have HE2 : Hid (∀ j, j < i + 1 → xs.getD j Wt.zero = ys.getD j Wt.zero) := by
              intro j hj
              by_cases hji : j = i
              · subst hji; exact HX.out.symm.trans (hxy.trans HY.out)
              · exact HE.out j (by omega)
            clear HB hxy
            go_wp2_with fail
            go_quiet (fail)
            go_wp2
            go_roundw
            case rel => exact ⟨i + 1, _, by simp, by omega, HE2, rfl⟩
            case measure => simp [RowKit.intOf]; omega
          | false =>
            have HR' : Hid (R = false) := by
              show R = false
              have : ¬ R = true := fun h => by
                have hxy : x = y := by rw [HX.out, HY.out, HR.out.1 h]
                exact absurd (HB.out.2 hxy) (by simp)
              simpa using this
            clear HB
            go_wp2_with fail
            go_quiet (fail)
            go_wp2
            go_ret
            rw [HR'.out]
            exact ⟨rfl, q + nq, by simp⟩
        · have HR' : Hid (R = true) := by
            show R = true
            exact HR.out.2 (wsame_upto xs ys (HL.out.symm.trans HM.out) (fun j hj => HE.out j (by rw [← HL.out] at hj; omega)))
          go_wp2
          go_ret
          rw [HR'.out]
          exact ⟨rfl, _, rfl⟩
    · obtain rfl : L = 0 := by omega
      have HR' : Hid (R = true) := by
        show R = true
        rw [HR.out, List.eq_nil_of_length_eq_zero HL.out.symm, List.eq_nil_of_length_eq_zero HM.out.symm]
      go_enter Tryz.func94, Tryz.ntmps94
      go_wp2_with fail
      refine wp_loop_rounds 1 ?_
      rw [rounds_succ]
      go_wp2
      go_ret
      rw [HR'.out]
      exact ⟨rfl, 0, rfl⟩
  · have hne : ((L : Int) != M) = true := by rw [bne_iff_ne]; omega
    have HR' : Hid (R = false) := by
      show R = false
      have : ¬ R = true := fun h => hLM (by rw [HL.out, HM.out, HR.out.1 h])
      simpa using this
    clear hLM
    go_enter Tryz.func94, Tryz.ntmps94
    go_wp2
    go_ret
    rw [HR'.out]
    exact ⟨rfl, 0, rfl⟩

set_option maxHeartbeats 2000000 in
set_option maxRecDepth 100000 in
theorem sameTxn_any (m n : Int) (a b : Option Addr) (L M ca cb : Nat) (R : Bool) (xs ys : List Wt) (w : World) (ha : WRs w a xs) (hb : WRs w b ys) (hL : L = xs.length) (hM : M = ys.length) (hR : R = true ↔ m = n ∧ xs = ys) :
    Calls Tryz.prog 27 #[.agg #[.int .i64 m, .slice a L ca], .agg #[.int .i64 n, .slice b M cb]] w fun e w' => e = .returned (.bool R) ∧ Fr [] w w' := by
  have HR : Hid (R = true ↔ m = n ∧ xs = ys) := hR
  have HL : Hid (L = xs.length) := hL
  have HM : Hid (M = ys.length) := hM
  clear hR hL hM
  have hF0 : Fr [] w ((w.alloc (.cells #[.int .i64 m, .slice a L ca] 63)).alloc (.cells #[.int .i64 n, .slice b M cb] 63)) := (Fr.alloc [] w _).then (Fr.alloc [] _ _)
  have ha0 := ha.keep hF0
  have hb0 := hb.keep hF0
  by_cases h : m = n
  · subst h
    have hbb : (m == m) = true := by simp
    have HR' : Hid (R = true ↔ xs = ys) := by show _ ↔ _; rw [HR.out]; simp
    clear HR
    go_enter Tryz.func27, Tryz.ntmps27
    go_wp2_with fail
    refine (sameWs_any a b L M ca cb R xs ys _ ha0 hb0 HL.out HM.out HR'.out).mono ?_
    rintro e w1 ⟨rfl, q, rfl⟩
    go_wp2
    go_ret
    exact ⟨rfl, hF0.then (Fr.drewN _ _ _)⟩
  · have hbb : (m == n) = false := by rw [beq_eq_false_iff_ne]; exact h
    have HR' : Hid (R = false) := by
      show R = false
      have : ¬ R = true := fun hh => h (HR.out.1 hh).1
      simpa using this
    clear h
    go_enter Tryz.func27, Tryz.ntmps27
    go_wp2
    go_ret
    rw [HR'.out]
    exact ⟨rfl, hF0⟩

/-! ### How great a transaction is -/
def wsum : List Wt → Nat
  | [] => 0
  | x :: r => x.key.size + x.val.size + wsum r
theorem wsum_snoc (l : List Wt) (x : Wt) : wsum (l ++ [x]) = wsum l + x.key.size + x.val.size := by
  induction l with
  | nil => simp [wsum]
  | cons a r ih => simp only [List.cons_append, wsum, ih]; omega
/-- The statements' size of some writes: at least 1048577 if they are more. -/
def Wide (N : Nat) (ws : List Wt) : Prop := ws.length ≤ N ∧ N ≤ 2^50 ∧ (N ≤ 1048576 → ∀ x ∈ ws, x.key.size ≤ 1048576 ∧ x.val.size ≤ 1048576)

set_option maxHeartbeats 4000000 in
set_option maxRecDepth 100000 in
theorem wsSize_any (a : Option Addr) (L ca : Nat) (xs : List Wt) (w : World) (ha : WRs w a xs) (hL : L = xs.length) :
    Calls Tryz.prog 101 #[.slice a L ca] w fun e w' => ∃ N : Nat, e = .returned (.int .i64 (N : Int)) ∧ Wide N xs ∧ ∃ q, w' = w.drewN q := by
  have HL : Hid (L = xs.length) := hL
  have hLl : L ≤ 140737488355328 := by have := ha.few; omega
  clear hL
  by_cases h0 : 0 < L
  · obtain ⟨ba, oa, rfl, _, hca⟩ := ha.lies (by rw [← HL.out]; exact h0)
    rw [← HL.out] at hca
    go_enter Tryz.func101, Tryz.ntmps101
    go_wp2_with fail
    go_loopw [3, 4] (fun vv ii wr => ∃ (n i q : Nat), vv = .int .i64 n ∧ ii = .int .i64 i ∧ i ≤ L ∧ L ≤ n ∧ n ≤ 422212465065984 ∧ Hid (∀ j, j < i → n ≤ 1048576 → (xs.getD j Wt.zero).key.size ≤ 1048576 ∧ (xs.getD j Wt.zero).val.size ≤ 1048576) ∧ wr = w.drewN q) (fun _ ii _ => L - (RowKit.intOf ii).toNat)
    case atStart => exact ⟨L, 0, 0, rfl, rfl, Nat.zero_le _, Nat.le_refl _, by omega, fun j hj => by omega, rfl⟩
    case round =>
      obtain ⟨n, i, q, rfl, rfl, hiL, hLn, hn, HE, rfl⟩ := hrel
      by_cases hi : i < L
      · by_cases hbig : 1048576 < n
        · have hb' : (1048576 : Int) < n := by omega
          have hi' : (i : Int) < L := by omega
          go_wp2
          go_ret
          exact ⟨n, rfl, ⟨by rw [← HL.out]; omega, by omega, fun h => by omega⟩, q, rfl⟩
        · have hb' : (n : Int) ≤ 1048576 := by omega
          obtain ⟨c0, c1, c2⟩ := hca i hi
          have hm := ha.each _ (wgetD_mem xs i (by rw [← HL.out]; exact hi))
          obtain ⟨x, hxx⟩ : ∃ x, x = xs.getD i Wt.zero := ⟨_, rfl⟩
          rw [← hxx] at c0 c1 c2 hm
          have HX : Hid (x = xs.getD i Wt.zero) := hxx
          clear hxx hca
          obtain ⟨key, val, drop⟩ := x
          simp only at c0 c1 c2 hm
          have HE2 : Hid (∀ j, j < i + 1 → n + key.size + val.size ≤ 1048576 → (xs.getD j Wt.zero).key.size ≤ 1048576 ∧ (xs.getD j Wt.zero).val.size ≤ 1048576) := by
            intro j hj hle
            by_cases hji : j = i
            · subst hji
              rw [← HX.out]
              exact ⟨by simp only; omega, by simp only; omega⟩
            · exact HE.out j (by omega) (by omega)
          obtain ⟨K, hK⟩ : ∃ K, K = key.size := ⟨_, rfl⟩
          obtain ⟨V, hV⟩ : ∃ V, V = val.size := ⟨_, rfl⟩
          have hk1 := hm.1
          have hv1 := hm.2
          clear hm
          go_wp2_with fail
          go_quiet (fail)
          go_wp2
          go_roundw
          case rel => exact ⟨n + key.size + val.size, i + 1, _, by simp, by simp, by omega, by omega, by omega, HE2, rfl⟩
          case measure => simp [RowKit.intOf]; omega
      · go_wp2
        go_ret
        refine ⟨n, rfl, ⟨by rw [← HL.out]; omega, by omega, fun h x hx => ?_⟩, q, rfl⟩
        obtain ⟨j, hj, rfl⟩ := List.getElem_of_mem hx
        have := HE.out j (by have := HL.out; omega) h
        simpa [List.getD, hj] using this
  · obtain rfl : L = 0 := by omega
    have : xs = [] := List.eq_nil_of_length_eq_zero HL.out.symm
    subst this
    go_enter Tryz.func101, Tryz.ntmps101
    go_wp2_with fail
    refine wp_loop_rounds 1 ?_
    rw [rounds_succ]
    go_wp2
    go_ret
    exact ⟨0, rfl, ⟨by simp, by omega, by simp⟩, 0, rfl⟩
set_option maxHeartbeats 2000000 in
set_option maxRecDepth 100000 in
theorem txSize_any (m : Int) (a : Option Addr) (L ca : Nat) (xs : List Wt) (w : World) (ha : WRs w a xs) (hL : L = xs.length) :
    Calls Tryz.prog 39 #[.agg #[.int .i64 m, .slice a L ca]] w fun e w' => ∃ N : Nat, e = .returned (.int .i64 ((N + 1 : Nat) : Int)) ∧ Wide N xs ∧ Fr [] w w' := by
  have HL : Hid (L = xs.length) := hL
  clear hL
  have hF0 : Fr [] w (w.alloc (.cells #[.int .i64 m, .slice a L ca] 63)) := Fr.alloc [] w _
  have ha0 := ha.keep hF0
  go_enter Tryz.func39, Tryz.ntmps39
  go_wp2_with fail
  refine (wsSize_any a L ca xs _ ha0 HL.out).mono ?_
  rintro e w1 ⟨N, rfl, hN, q, rfl⟩
  have hN2 := hN.2.1
  have HN : Hid (Wide N xs) := hN
  clear hN
  go_wp2
  go_ret
  exact ⟨N, by simp; omega, HN.out, hF0.then (Fr.drewN _ _ _)⟩
end Go.Proofs.YtaefninikmaiiaaGreatDoor
/- What the statements' helpers TwinWrites, TwinTxn, LeftWrites and LeftTxn answer. Conditions: fewer than 2^21 writes. -/
namespace Go.Proofs.YtaefninikmaiiaaGreatDoor
open Go.ChangeShapes Go.WideShapes Go.ChangeAt Go.RowKit Go.Lib
set_option linter.unusedVariables false
set_option linter.unusedSimpArgs false

/-- The write that stands in a twin's spare room. -/
def spW : Wt := ⟨⟨#[115, 112, 97, 114, 101]⟩, ⟨#[]⟩, false⟩
theorem Tryz.infoWtW : (Tryz.prog.info? 124).map (fun i => (i.zero, i.size, i.bytes)) = some (some (.agg #[.string ⟨#[]⟩, .string ⟨#[]⟩, .bool false]), 3, 40) := by kernel_rfl
theorem Tryz.undWsW : Tryz.prog.underlying 61 = some (.slice 124) := by kernel_rfl
theorem results_cW {fn : Func} {p : Tmp} {ty : TypeId} (h : fn.results = #[.cell p ty]) (tmps : Array Value) (P : Program) (w : World) :
    (results fn tmps).run P w = ((asAddr (tmps.getD p undef)).run P w).andThen fun a w₁ => (loadVar ty a).run P w₁ := by
  simp only [results, h]
  simp [Sem.run_bind, Result.andThen]
theorem wown_full {w : World} {g n : Nat} {xs : List Value} (h : w.ownsRow 0 124 3 (.slice (some ⟨g, 0, none⟩) n n) n xs) : w.heap[g]? = some (.cells xs.toArray 124 (0, 0)) := by
  have hl := h.1
  rcases h.2 with ⟨hh, _⟩ | ⟨g', cap', cur, hh, _, hg, _, _, hcs, ht⟩
  · cases hh
  · cases hh
    rw [hg]
    congr 2
    rw [← Array.toList_inj]
    simp only
    rw [← ht, List.take_of_length_le (by simp [hcs])]

set_option maxHeartbeats 4000000 in
set_option maxRecDepth 100000 in
theorem twinWs_any (ao : Option Addr) (L cap : Nat) (ws : List Wt) (w : World) (h : WRs w ao ws) (hLe : L = ws.length) (hL : L < 2^21) :
    Calls Tryz.prog 102 #[.slice ao L cap] w fun e w' => ∃ b, e = .returned (.slice (some ⟨b, 0, none⟩) L (L + 1)) ∧ w.heap.size ≤ b ∧ w'.heap[b]? = some (.cells (wtsC (ws ++ [spW])).toArray 124 (0, 0)) ∧ Fr [] w w' := by
  obtain ⟨i0, hi, hz0, hz1, hz2⟩ := info_parts Tryz.infoWtW
  have HL : Hid (L = ws.length) := hLe
  clear hLe
  go_enter Tryz.func102, Tryz.ntmps102
  go_wp2_with (at_make; refine wpList_make_own _ rfl (.const (.int .i64 0)) (.tmp 7) 61 rfl 0 124 i0 _ 3 Tryz.undWsW hi hz0 hz1 .i64 .i64 ((L : Int) + 1) (L + 1) rfl rfl ?bC ?b2 ?b3 ?b4 ?_)
  case bC => simp
  case b2 => rw [hz2]; omega
  case b3 => unfold maxLen; omega
  case b4 => exact Nat.zero_le _
  intro w1 hown hgrow
  obtain ⟨g, hg⟩ : ∃ g, g = w.heap.size := ⟨_, rfl⟩
  have hgw : w.heap.size ≤ g := by omega
  rw [← hg] at hown ⊢
  have h01 : Fr [] w w1 := Fr.grown (S := []) hgrow (by simp)
  clear hgrow hg
  go_wp2_with fail
  go_loopw [3, 4] (fun vv ii wr => ∃ i : Nat, vv = .slice (some ⟨g, 0, none⟩) i (L + 1) ∧ ii = .int .i64 i ∧ i ≤ L ∧ wr.ownsRow 0 124 3 (.slice (some ⟨g, 0, none⟩) i (L + 1)) i (wtsC (ws.take i)) ∧ Fr [] w wr) (fun _ ii _ => L - (RowKit.intOf ii).toNat)
  case atStart => exact ⟨0, rfl, rfl, Nat.zero_le _, hown, h01⟩
  case round =>
    obtain ⟨i, rfl, rfl, hiL, hO, hF⟩ := hrel
    have hsz := (hO.lt g rfl).2
    by_cases hil : i < L
    · have hi' : i < ws.length := by rw [← HL.out]; exact hil
      obtain ⟨b, off, e, _, hc⟩ := (h.keep hF).lies (by omega)
      subst e
      obtain ⟨d0, d1, d2⟩ := hc i hi'
      obtain ⟨x, hx⟩ : ∃ x, x = ws.getD i Wt.zero := ⟨_, rfl⟩
      rw [← hx] at d0 d1 d2
      have HE : Hid (wtsC (ws.take (i + 1)) = wtsC (ws.take i) ++ [.string x.key, .string x.val, .bool x.drop]) := by
        show _ = _
        rw [wtake_snoc ws i hi', wtsC_append, ← hx]; rfl
      clear hc hx
      obtain ⟨key, val, drop⟩ := x
      simp only at d0 d1 d2 HE
      go_wp2_with (at_builtin; refine wpList_append_fits _ rfl (.tmp 15) (.tmp 20) 61 rfl 0 124 i0 3 Tryz.undWsW hi hz1 g i (L + 1) _ rfl (hO.alloc _) ⟨wr.heap.size, 0, none⟩ 1 1 [.string key, .string val, .bool drop] rfl rfl ?c1 ?c2 ?c3 ?_)
      case c1 => intro j u hj; match j, hj with | 0, hj => simp at hj; subst hj; simp [Addr.add] | 1, hj => simp at hj; subst hj; simp [Addr.add] | 2, hj => simp at hj; subst hj; simp [Addr.add]
      case c2 => intro u hu; simp at hu; rcases hu with rfl | rfl | rfl <;> rfl
      case c3 => omega
      intro w2 hO2 hg2
      rw [← HE.out] at hO2
      have hF2 : Fr [] w w2 := (hF.then (Fr.alloc [] wr _)).on (Fr.grown (S := [g]) hg2 (by intro k hk _; cases hk; simp)) (by intro y hy; simp at hy; omega)
      clear hO hg2 hF d0 d1 d2
      go_wp2
      go_roundw
      case rel => exact ⟨i + 1, rfl, by simp, by omega, hO2, hF2⟩
      case measure => simp [RowKit.intOf]; omega
    · have hiL' : L ≤ i := by omega
      obtain rfl : i = L := by omega
      have HE : Hid (wtsC (ws ++ [spW]) = wtsC (ws.take i) ++ [.string ⟨#[115, 112, 97, 114, 101]⟩, .string ⟨#[]⟩, .bool false]) := by
        show _ = _
        rw [List.take_of_length_le (by rw [← HL.out]; omega), wtsC_append]; rfl
      go_wp2_with (at_builtin; refine wpList_append_fits _ rfl (.tmp 22) (.tmp 24) 61 rfl 0 124 i0 3 Tryz.undWsW hi hz1 g i (i + 1) _ rfl (hO.alloc _) ⟨wr.heap.size, 0, none⟩ 1 1 [.string ⟨#[115, 112, 97, 114, 101]⟩, .string ⟨#[]⟩, .bool false] rfl rfl ?c1 ?c2 ?c3 ?_)
      case c1 => intro j u hj; match j, hj with | 0, hj => simp at hj; subst hj; simp [Addr.add] | 1, hj => simp at hj; subst hj; simp [Addr.add] | 2, hj => simp at hj; subst hj; simp [Addr.add]
      case c2 => intro u hu; simp at hu; rcases hu with rfl | rfl | rfl <;> rfl
      case c3 => omega
      intro w2 hO2 hg2
      rw [← HE.out] at hO2
      have hF2 : Fr [] w w2 := (hF.then (Fr.alloc [] wr _)).on (Fr.grown (S := [g]) hg2 (by intro k hk _; cases hk; simp)) (by intro y hy; simp at hy; omega)
      have HRow : Hid (w2.heap[g]? = some (.cells (wtsC (ws ++ [spW])).toArray 124 (0, 0))) := wown_full hO2
      clear hO hg2 hF hO2
      go_wp2
      go_ret
      exact ⟨g, rfl, hgw, HRow.out, hF2⟩

set_option maxHeartbeats 4000000 in
set_option maxRecDepth 100000 in
theorem twinTxn_any (n : Int) (ao : Option Addr) (L cap : Nat) (ws : List Wt) (w : World) (h : WRs w ao ws) (hLe : L = ws.length) (hL : L < 2^21) :
    Calls Tryz.prog 40 #[.agg #[.int .i64 n, .slice ao L cap]] w fun e w' => ∃ b, e = .returned (.agg #[.int .i64 n, .slice (some ⟨b, 0, none⟩) L (L + 1)]) ∧ w.heap.size ≤ b ∧ w'.heap[b]? = some (.cells (wtsC (ws ++ [spW])).toArray 124 (0, 0)) ∧ Fr [] w w' := by
  have HLe : Hid (L = ws.length) := hLe
  clear hLe
  obtain ⟨w0, HW0⟩ : ∃ w0, Hid ((w.alloc (.cells #[.int .i64 n, .slice ao L cap] 63)).alloc (.cells #[.int .i64 0, .slice none 0 0] 63) = w0) := ⟨_, rfl⟩
  have hF0 : Fr [] w w0 := by rw [← HW0.out]; exact (Fr.alloc [] w _).then (Fr.alloc [] _ _)
  have hb0 : w0.heap[w.heap.size]? = some (.cells #[.int .i64 n, .slice ao L cap] 63 (0, 0)) := by rw [← HW0.out]; exact (Fr.alloc [] _ _).keep (heap_alloc_new w _) (by simp)
  have hb1 : w0.heap[w.heap.size + 1]? = some (.cells #[.int .i64 0, .slice none 0 0] 63 (0, 0)) := by
    rw [← HW0.out]
    have := heap_alloc_new (w.alloc (.cells #[.int .i64 n, .slice ao L cap] 63)) (.cells #[.int .i64 0, .slice none 0 0] 63)
    simpa using this
  have HB : Hid (∀ W, Fr [] w0 W → W.heap[w.heap.size]? = some (.cells #[.int .i64 n, .slice ao L cap] 63 (0, 0)) ∧ W.heap[w.heap.size + 1]? = some (.cells #[.int .i64 0, .slice none 0 0] 63 (0, 0))) := fun W hf => ⟨hf.keep hb0 (by simp), hf.keep hb1 (by simp)⟩
  have hcell : ∀ W, Fr [] w0 W → W.cell? ⟨w.heap.size, 0, none⟩ = some (.int .i64 n) ∧ W.cell? ⟨w.heap.size, 1, none⟩ = some (.slice ao L cap) ∧ W.cell? ⟨w.heap.size + 1, 0, none⟩ = some (.int .i64 0) ∧ W.cell? ⟨w.heap.size + 1, 1, none⟩ = some (.slice none 0 0) ∧ W.frozen? ⟨w.heap.size + 1, 0, none⟩ = false ∧ W.frozen? ⟨w.heap.size + 1, 1, none⟩ = false := by
    intro W hf
    obtain ⟨a, b⟩ := HB.out W hf
    refine ⟨?_, ?_, ?_, ?_, ?_, ?_⟩
    · rw [cell_of_row _ _ _ _ _ _ a]; rfl
    · rw [cell_of_row _ _ _ _ _ _ a]; rfl
    · rw [cell_of_row _ _ _ _ _ _ b]; rfl
    · rw [cell_of_row _ _ _ _ _ _ b]; rfl
    · simp [World.frozen?, b]
    · simp [World.frozen?, b]
  have HCe : Hid (∀ W, Fr [] w0 W → _) := hcell
  obtain ⟨k0, k1, k2, k3, k4, k5⟩ := hcell _ (Fr.drew [] w0)
  have hT := twinWs_any ao L cap ws w0.drew (h.keep (hF0.then (Fr.drew [] w0))) HLe.out hL
  clear hcell hb0 hb1
  have hs0 : w0.heap.size = w.heap.size + 2 := by rw [← HW0.out]; simp
  go_enter Tryz.func40, Tryz.ntmps40
  go_upto_region 1 with fail
  rw [HW0.out]
  first
    | go_loud (go_region_held3 (fun W => W.cell? ⟨w.heap.size, 0, none⟩ = some (.int .i64 n) ∧ W.cell? ⟨w.heap.size, 1, none⟩ = some (.slice ao L cap)) (go_keep)
        (first
        | (go_at_call 102; with_reducible refine hT.mono ?_; rintro e w1 ⟨b, rfl, hb, hrow, hF1⟩; have hG1 := (Fr.drew [] w0).then hF1; obtain ⟨j0, j1, j2, j3, j4, j5⟩ := HCe.out _ hG1)))
    | fail
  have hbb : b ≠ w.heap.size + 1 := by have : w0.drew.heap.size = w0.heap.size := rfl; omega
  have hFs : Fr [w.heap.size + 1] w1 ((w1.setCell ⟨w.heap.size + 1, 0, none⟩ (.int .i64 n)).setCell ⟨w.heap.size + 1, 1, none⟩ (.slice (some ⟨b, 0, none⟩) L (L + 1))) := (Fr.set w1 ⟨w.heap.size + 1, 0, none⟩ _ (by simp)).then (Fr.set _ ⟨w.heap.size + 1, 1, none⟩ _ (by simp))
  have HR : Hid (_ ∧ _) := ⟨hFs.keep hrow (by simp; exact hbb), (hF0.then hG1).on hFs (by intro x hx; simp at hx; omega)⟩
  have hbw : w.heap.size ≤ b := by have : w0.drew.heap.size = w0.heap.size := rfl; omega
  clear hFs hrow hF1 hG1 hT
  go_wp2
  refine bodyPost_ret (v := (.agg #[.int .i64 n, .slice (some ⟨b, 0, none⟩) L (L + 1)])) (by rw [results_cW rfl]; go_simp) rfl ⟨b, rfl, hbw, HR.out.1, HR.out.2⟩

set_option maxHeartbeats 4000000 in
set_option maxRecDepth 100000 in
theorem leftWs_any (t : Nat) (ao : Option Addr) (L cap : Nat) (ws : List Wt) (w : World) (h : WRs w ao ws) (hLe : L = ws.length) (hL : L < 2^21) (hrow : w.heap[t]? = some (.cells (wtsC (ws ++ [spW])).toArray 124 (0, 0))) :
    Calls Tryz.prog 114 #[.slice (some ⟨t, 0, none⟩) L (L + 1), .slice ao L cap] w fun e w' => e = .returned (.bool true) ∧ Fr [] w w' := by
  have HL : Hid (L = ws.length) := hLe
  clear hLe
  have hct : ∀ j, j < L → WAt w t (j * 3) (ws.getD j Wt.zero) := by
    intro j hj
    have key : ∀ c, c < 3 → w.cell? ⟨t, j * 3 + c, none⟩ = (wtC (ws.getD j Wt.zero))[c]? := by
      intro c hc
      rw [cell_of_row _ _ _ _ _ _ hrow]
      have := wtsC_get (ws ++ [spW]) j c (by rw [List.length_append, ← HL.out]; simp; omega) hc
      have e : (ws ++ [spW]).getD j Wt.zero = ws.getD j Wt.zero := by simp [List.getD, List.getElem?_append_left (show j < ws.length by rw [← HL.out]; exact hj)]
      rw [e] at this
      simpa using this
    exact ⟨key 0 (by omega), key 1 (by omega), key 2 (by omega)⟩
  have hsp : WAt w t (L * 3) spW := by
    have key : ∀ c, c < 3 → w.cell? ⟨t, L * 3 + c, none⟩ = (wtC spW)[c]? := by
      intro c hc
      rw [cell_of_row _ _ _ _ _ _ hrow]
      have := wtsC_get (ws ++ [spW]) L c (by rw [List.length_append, ← HL.out]; simp) hc
      have e : (ws ++ [spW]).getD L Wt.zero = spW := by simp [List.getD, HL.out]
      rw [e] at this
      simpa using this
    exact ⟨key 0 (by omega), key 1 (by omega), key 2 (by omega)⟩
  have hne : ((L : Int) != L) = false := by simp
  have hgd := Tryz.guardWt
  clear hrow
  go_enter Tryz.func114, Tryz.ntmps114
  go_wp2_with fail
  go_loopw [5] (fun ii wr => ∃ (i q : Nat), ii = .int .i64 i ∧ i ≤ L ∧ Hid (wr = w.drewN q)) (fun ii _ => L - (RowKit.intOf ii).toNat)
  case atStart => exact ⟨0, 0, rfl, Nat.zero_le _, rfl⟩
  case round =>
    obtain ⟨i, q, rfl, hiL, HQ⟩ := hrel
    have hce : ∀ a, wr.cell? a = w.cell? a := fun a => by rw [HQ.out]; rfl
    by_cases hi : i < L
    · have hi' : i < ws.length := by rw [← HL.out]; exact hi
      obtain ⟨b, off, e, _, hc⟩ := h.lies (by omega)
      subst e
      obtain ⟨c0, c1, c2⟩ := hct i hi
      obtain ⟨d0, d1, d2⟩ := hc i hi'
      obtain ⟨x, hxx⟩ : ∃ x, x = ws.getD i Wt.zero := ⟨_, rfl⟩
      rw [← hxx, ← hce] at c0 c1 c2 d0 d1 d2
      clear hxx hct hc hsp hce
      have hq : ∀ w', (Op.equalIn 10000 124 (.agg #[.string x.key, .string x.val, .bool x.drop]) (.agg #[.string x.key, .string x.val, .bool x.drop])).run Tryz.prog w' = .ok true w' := fun w' => by rw [wt_in w' x x, (sameW_iff x x).2 rfl]
      go_wp2_with fail
      go_quiet (fail)
      go_wp2
      go_roundw
      case rel => exact ⟨i + 1, q + nq, by simp, by omega, by show _ = _; rw [HQ.out]; simp⟩
      case measure => simp [RowKit.intOf]; omega
    · have hiL' : L ≤ i := by omega
      obtain ⟨c0, c1, c2⟩ := hsp
      rw [← hce] at c0 c1 c2
      have hFq : Fr [] w wr := by rw [HQ.out]; exact Fr.drewN _ _ _
      clear hct hce
      have hq : ∀ w', (Op.equalIn 10000 124 (.agg #[.string ⟨#[115, 112, 97, 114, 101]⟩, .string ⟨#[]⟩, .bool false]) (.agg #[.string ⟨#[115, 112, 97, 114, 101]⟩, .string ⟨#[]⟩, .bool false])).run Tryz.prog w' = .ok true w' := fun w' => by
        have := wt_in w' spW spW
        rw [(sameW_iff spW spW).2 rfl] at this
        exact this
      simp only [spW] at c0 c1 c2
      go_wp2
      go_ret
      exact ⟨by simp, hFq.then (Fr.alloc [] _ _)⟩
set_option maxHeartbeats 2000000 in
set_option maxRecDepth 100000 in
theorem leftTxn_any (n : Int) (t : Nat) (ao : Option Addr) (L cap : Nat) (ws : List Wt) (w : World) (h : WRs w ao ws) (hLe : L = ws.length) (hL : L < 2^21) (hrow : w.heap[t]? = some (.cells (wtsC (ws ++ [spW])).toArray 124 (0, 0))) :
    Calls Tryz.prog 50 #[.agg #[.int .i64 n, .slice (some ⟨t, 0, none⟩) L (L + 1)], .agg #[.int .i64 n, .slice ao L cap]] w fun e w' => e = .returned (.bool true) ∧ Fr [] w w' := by
  have HL : Hid (L = ws.length) := hLe
  clear hLe
  have hF0 : Fr [] w ((w.alloc (.cells #[.int .i64 n, .slice (some ⟨t, 0, none⟩) L (L + 1)] 63)).alloc (.cells #[.int .i64 n, .slice ao L cap] 63)) := (Fr.alloc [] w _).then (Fr.alloc [] _ _)
  have hX := leftWs_any t ao L cap ws _ (h.keep hF0) HL.out hL (hF0.keep hrow (by simp))
  have hnn : (n == n) = true := by simp
  go_enter Tryz.func50, Tryz.ntmps50
  go_wp2_with fail
  refine hX.mono ?_
  rintro e w1 ⟨rfl, hF1⟩
  have HG : Hid (Fr [] w w1) := hF0.then hF1
  clear hX hF1
  go_wp2
  go_ret
  exact ⟨by simp, HG.out⟩
end Go.Proofs.YtaefninikmaiiaaGreatDoor
/- What the statements' helpers TwinTxns and LeftTxns answer. Conditions: fewer than 2^21 transactions, of fewer than 2^21 writes each. -/
namespace Go.Proofs.YtaefninikmaiiaaGreatDoor
open Go.ChangeShapes Go.WideShapes Go.ChangeAt Go.RowKit Go.Lib
set_option linter.unusedVariables false
set_option linter.unusedSimpArgs false

/-- The transaction that stands in a twin's spare room. -/
def spT : Tm := ⟨7777, none, 0, 0, []⟩
/-- The twin of a transaction, its writes in block b. -/
def twT (t : Tm) (b : Nat) : Tm := ⟨t.n, some ⟨b, 0, none⟩, t.L, t.L + 1, t.ws⟩
def twTs (ts : List Tm) (ks : List Nat) : List Tm := List.zipWith twT ts ks
theorem twTs_length (ts : List Tm) (ks : List Nat) (h : ks.length = ts.length) : (twTs ts ks).length = ts.length := by simp [twTs, h]
theorem twTs_snoc (ts : List Tm) (ks : List Nat) (t : Tm) (k : Nat) (h : ks.length = ts.length) : twTs (ts ++ [t]) (ks ++ [k]) = twTs ts ks ++ [twT t k] := by
  unfold twTs
  rw [List.zipWith_append h.symm]
  rfl
theorem twTs_get {ts : List Tm} {ks : List Nat} {i : Nat} {u : Tm} (h : (twTs ts ks)[i]? = some u) : ∃ t k, ts[i]? = some t ∧ ks[i]? = some k ∧ u = twT t k := by
  unfold twTs at h
  rw [List.getElem?_zipWith] at h
  cases ht : ts[i]? with
  | none => simp [ht] at h
  | some t =>
    cases hk : ks[i]? with
    | none => simp [ht, hk] at h
    | some k => simp [ht, hk] at h; exact ⟨t, k, rfl, rfl, h.symm⟩
theorem txs_twTs (ts : List Tm) (ks : List Nat) (h : ks.length = ts.length) : txs (twTs ts ks) = txs ts := by
  apply List.ext_getElem?
  intro i
  unfold txs
  rw [List.getElem?_map, List.getElem?_map]
  by_cases hi : i < ts.length
  · have h1 : i < (twTs ts ks).length := by rw [twTs_length ts ks h]; exact hi
    obtain ⟨u, hu⟩ : ∃ u, (twTs ts ks)[i]? = some u := ⟨_, List.getElem?_eq_getElem h1⟩
    obtain ⟨t, k, ht, hk, rfl⟩ := twTs_get hu
    rw [hu, ht]
    rfl
  · rw [List.getElem?_eq_none (by rw [twTs_length ts ks h]; omega), List.getElem?_eq_none (by omega)]
/-- The twins' writes lie in blocks of their own, made since w. -/
structure Twd (w w' : World) (ts : List Tm) (ks : List Nat) : Prop where
  len : ks.length = ts.length
  new : ∀ k ∈ ks, w.heap.size ≤ k
  row : ∀ (i : Nat) (t : Tm) (k : Nat), ts[i]? = some t → ks[i]? = some k → w'.heap[k]? = some (.cells (wtsC (t.ws ++ [spW])).toArray 124 (0, 0))
  apart : ks.Nodup
theorem Twd.nil (w w' : World) : Twd w w' [] [] := ⟨rfl, by simp, by simp, by simp⟩
theorem Twd.keep {S : List Nat} {w w1 w2 : World} {ts : List Tm} {ks : List Nat} (h : Twd w w1 ts ks) (hf : Fr S w1 w2) (hn : ∀ k ∈ ks, k ∉ S) : Twd w w2 ts ks :=
  ⟨h.len, h.new, fun i t k ht hk => hf.keep (h.row i t k ht hk) (hn k (List.mem_of_getElem? hk)), h.apart⟩
theorem Twd.lt {w w' : World} {ts : List Tm} {ks : List Nat} (h : Twd w w' ts ks) : ∀ k ∈ ks, k < w'.heap.size := by
  intro k hk
  obtain ⟨i, hi⟩ := List.getElem?_of_mem hk
  have hl : i < ts.length := by rw [← h.len]; exact (List.getElem?_eq_some_iff.1 hi).1
  exact lt_of_block (h.row i _ k (List.getElem?_eq_getElem hl) hi)
theorem Twd.snoc {w w1 w2 : World} {ts : List Tm} {ks : List Nat} (h : Twd w w1 ts ks) (hf : Fr [] w1 w2) (hw : w.heap.size ≤ w1.heap.size) (t : Tm) (k : Nat) (hk : w1.heap.size ≤ k) (hr : w2.heap[k]? = some (.cells (wtsC (t.ws ++ [spW])).toArray 124 (0, 0))) : Twd w w2 (ts ++ [t]) (ks ++ [k]) := by
  have hl := h.len
  refine ⟨by simp [hl], ?_, ?_, ?_⟩
  · intro j hj
    rcases List.mem_append.1 hj with hj | hj
    · exact h.new j hj
    · simp at hj; omega
  · intro i u j hu hj
    by_cases hi : i < ts.length
    · rw [List.getElem?_append_left hi] at hu
      rw [List.getElem?_append_left (by omega)] at hj
      exact hf.keep (h.row i u j hu hj) (by simp)
    · have hi2 : i = ts.length := by have := (List.getElem?_eq_some_iff.1 hu).1; simp at this; omega
      subst hi2
      rw [List.getElem?_append_right (Nat.le_refl _)] at hu
      rw [← hl, List.getElem?_append_right (Nat.le_refl _)] at hj
      simp at hu hj
      subst hu hj
      exact hr
  · rw [List.nodup_append]
    refine ⟨h.apart, by simp, ?_⟩
    intro a ha b hb
    simp at hb
    have := h.lt a ha
    omega
/-- All writes of a row are few. -/
def Few (ts : List Tm) : Prop := ∀ t ∈ ts, t.L < 2^21
theorem tms_full {w : World} {g n : Nat} {xs : List Value} (h : w.ownsRow 0 63 2 (.slice (some ⟨g, 0, none⟩) n n) n xs) : w.heap[g]? = some (.cells xs.toArray 63 (0, 0)) := by
  have hl := h.1
  rcases h.2 with ⟨hh, _⟩ | ⟨g', cap', cur, hh, _, hg, _, _, hcs, ht⟩
  · cases hh
  · cases hh
    rw [hg]
    congr 2
    rw [← Array.toList_inj]
    simp only
    rw [← ht, List.take_of_length_le (by simp [hcs])]
theorem own_typeT {w : World} {e : TypeId} {size : Nat} {v : Value} {n : Nat} {vs : List Value} (h : w.ownsRow 0 e size v n vs) : ∀ k, v.ownBlock = some k → ∃ cs, w.heap[k]? = some (.cells cs e (0, 0)) := by
  intro k hk
  rcases h.2 with ⟨rfl, _⟩ | ⟨g, cap, cur, rfl, _, hg, _⟩
  · simp [Value.ownBlock] at hk
  · simp [Value.ownBlock] at hk
    subst hk
    exact ⟨_, hg⟩
theorem Tryz.infoTW : (Tryz.prog.info? 63).map (fun i => (i.zero, i.size, i.bytes)) = some (some (.agg #[.int .i64 0, .slice none 0 0]), 2, 32) := by kernel_rfl
theorem Tryz.undTsW : Tryz.prog.underlying 22 = some (.slice 63) := by kernel_rfl

set_option maxHeartbeats 8000000 in
set_option maxRecDepth 100000 in
theorem twinTs_any (ao : Option Addr) (L cap : Nat) (ts : List Tm) (w : World) (h : TRs w ao ts) (hLe : L = ts.length) (hL : L < 2^21) (hfew : Few ts) :
    Calls Tryz.prog 9 #[.slice ao L cap] w fun e w' => ∃ b ks, e = .returned (.slice (some ⟨b, 0, none⟩) L (L + 1)) ∧ w.heap.size ≤ b ∧ w'.heap[b]? = some (.cells (tmsC (twTs ts ks ++ [spT])).toArray 63 (0, 0)) ∧ Twd w w' ts ks ∧ Fr [] w w' := by
  obtain ⟨i0, hi, hz0, hz1, hz2⟩ := info_parts Tryz.infoTW
  have HL : Hid (L = ts.length) := hLe
  have HFew : Hid (Few ts) := hfew
  clear hLe hfew
  go_enter Tryz.func9, Tryz.ntmps9
  go_wp2_with (at_make; refine wpList_make_own _ rfl (.const (.int .i64 0)) (.tmp 7) 22 rfl 0 63 i0 _ 2 Tryz.undTsW hi hz0 hz1 .i64 .i64 ((L : Int) + 1) (L + 1) rfl rfl ?bC ?b2 ?b3 ?b4 ?_)
  case bC => simp
  case b2 => rw [hz2]; omega
  case b3 => unfold maxLen; omega
  case b4 => exact Nat.zero_le _
  intro w1 hown hgrow
  obtain ⟨g, hg⟩ : ∃ g, g = w.heap.size := ⟨_, rfl⟩
  have hgw : w.heap.size ≤ g := by omega
  rw [← hg] at hown ⊢
  have h01 : Fr [] w w1 := Fr.grown (S := []) hgrow (by simp)
  clear hgrow hg
  go_wp2_with fail
  go_loopw [3, 4] (fun vv ii wr => ∃ (i : Nat) (ks : List Nat), vv = .slice (some ⟨g, 0, none⟩) i (L + 1) ∧ ii = .int .i64 i ∧ i ≤ L ∧ wr.ownsRow 0 63 2 (.slice (some ⟨g, 0, none⟩) i (L + 1)) i (tmsC (twTs (ts.take i) ks)) ∧ Hid (Twd w wr (ts.take i) ks) ∧ Fr [] w wr) (fun _ ii _ => L - (RowKit.intOf ii).toNat)
  case atStart => exact ⟨0, [], rfl, rfl, Nat.zero_le _, by simpa [twTs, tmsC] using hown, Twd.nil _ _, h01⟩
  case round =>
    obtain ⟨i, ks, rfl, rfl, hiL, hO, HW, hF⟩ := hrel
    have hsz := (hO.lt g rfl).2
    by_cases hil : i < L
    · have hi' : i < ts.length := by rw [← HL.out]; exact hil
      obtain ⟨b, off, e, _, hc⟩ := (h.keep hF).lies (by omega)
      subst e
      obtain ⟨d0, d1⟩ := hc i hi'
      have hat := (h.keep hF).each _ (tgetD_mem ts i hi')
      have hfw := HFew.out _ (tgetD_mem ts i hi')
      obtain ⟨x, hx⟩ : ∃ x, x = ts.getD i Tm.zero := ⟨_, rfl⟩
      rw [← hx] at d0 d1 hat hfw
      have HTK : Hid (ts.take (i + 1) = ts.take i ++ [x]) := by show _ = _; rw [ttake_snoc ts i hi', hx]
      clear hc hx
      obtain ⟨n, xo, M, cm, ws⟩ := x
      simp only at d0 d1 hfw
      have hat' : TArg wr n xo M cm ws := hat
      go_wp2_with fail
      refine (twinTxn_any n xo M cm ws _ hat'.rs hat'.len hfw).mono ?_
      rintro e w2 ⟨k, rfl, hk, hrow2, hF2⟩
      have hO2 := owns_keep hO hF2 (by simp)
      have HW2 : Hid (Twd w w2 (ts.take (i + 1)) (ks ++ [k])) := by
        show Twd _ _ _ _
        rw [HTK.out]
        exact HW.out.snoc hF2 hF.size ⟨n, xo, M, cm, ws⟩ k hk hrow2
      have HE : Hid (tmsC (twTs (ts.take (i + 1)) (ks ++ [k])) = tmsC (twTs (ts.take i) ks) ++ [.int .i64 n, .slice (some ⟨k, 0, none⟩) M (M + 1)]) := by
        show _ = _
        rw [HTK.out, twTs_snoc _ _ _ _ HW.out.len, tmsC_append]
        rfl
      have hG2 := hF.then hF2
      have hs2 := hF2.size
      have hgk : g ∉ (ks ++ [k]) := by
        intro hm
        obtain ⟨j, hj⟩ := List.getElem?_of_mem hm
        have hl : j < (ts.take (i + 1)).length := by rw [← HW2.out.len]; exact (List.getElem?_eq_some_iff.1 hj).1
        have h1 := HW2.out.row j _ g (List.getElem?_eq_getElem hl) hj
        obtain ⟨cs, h2⟩ := own_typeT hO2 g rfl
        rw [h1] at h2
        simp at h2
      clear hat hat' hO hrow2 hF2 d0 d1 hF HW
      go_wp2_with (at_builtin; refine wpList_append_fits _ rfl (.tmp 15) (.tmp 21) 22 rfl 0 63 i0 2 Tryz.undTsW hi hz1 g i (L + 1) _ rfl (hO2.alloc _) ⟨w2.heap.size, 0, none⟩ 1 1 [.int .i64 n, .slice (some ⟨k, 0, none⟩) M (M + 1)] rfl rfl ?c1 ?c2 ?c3 ?_)
      case c1 => intro j u hj; match j, hj with | 0, hj => simp at hj; subst hj; simp [Addr.add] | 1, hj => simp at hj; subst hj; simp [Addr.add]
      case c2 => intro u hu; simp at hu; rcases hu with rfl | rfl <;> rfl
      case c3 => omega
      intro w3 hO3 hg3
      rw [← HE.out] at hO3
      have hF3 : Fr [g] w2 w3 := ((Fr.alloc [] w2 _).mono (by simp)).then (Fr.grown (S := [g]) hg3 (by intro k hk _; cases hk; simp))
      have HW3 : Hid (Twd w w3 (ts.take (i + 1)) (ks ++ [k])) := HW2.out.keep hF3 (fun j hj => by intro hh; simp at hh; subst hh; exact hgk hj)
      have hG3 : Fr [] w w3 := hG2.on hF3 (by intro y hy; simp at hy; omega)
      clear hO2 hg3 hF3 hG2 HW2 hgk
      go_wp2
      go_roundw
      case rel => exact ⟨i + 1, ks ++ [k], rfl, by simp, by omega, hO3, HW3, hG3⟩
      case measure => simp [RowKit.intOf]; omega
    · have hiL' : L ≤ i := by omega
      obtain rfl : i = L := by omega
      have HTK : Hid (ts.take i = ts) := List.take_of_length_le (by rw [← HL.out]; omega)
      have HE : Hid (tmsC (twTs ts ks ++ [spT]) = tmsC (twTs (ts.take i) ks) ++ [.int .i64 7777, .slice none 0 0]) := by
        show _ = _
        rw [HTK.out, tmsC_append]; rfl
      have hgk : g ∉ ks := by
        intro hm
        obtain ⟨j, hj⟩ := List.getElem?_of_mem hm
        have hl : j < (ts.take i).length := by rw [← HW.out.len]; exact (List.getElem?_eq_some_iff.1 hj).1
        have h1 := HW.out.row j _ g (List.getElem?_eq_getElem hl) hj
        obtain ⟨cs, h2⟩ := own_typeT hO g rfl
        rw [h1] at h2
        simp at h2
      go_wp2_with (at_builtin; refine wpList_append_fits _ rfl (.tmp 23) (.tmp 25) 22 rfl 0 63 i0 2 Tryz.undTsW hi hz1 g i (i + 1) _ rfl (hO.alloc _) ⟨wr.heap.size, 0, none⟩ 1 1 [.int .i64 7777, .slice none 0 0] rfl rfl ?c1 ?c2 ?c3 ?_)
      case c1 => intro j u hj; match j, hj with | 0, hj => simp at hj; subst hj; simp [Addr.add] | 1, hj => simp at hj; subst hj; simp [Addr.add]
      case c2 => intro u hu; simp at hu; rcases hu with rfl | rfl <;> rfl
      case c3 => omega
      intro w2 hO2 hg2
      rw [← HE.out] at hO2
      have hF1 : Fr [g] wr w2 := ((Fr.alloc [] wr _).mono (by simp)).then (Fr.grown (S := [g]) hg2 (by intro k hk _; cases hk; simp))
      have hF2 : Fr [] w w2 := hF.on hF1 (by intro y hy; simp at hy; omega)
      have HRow : Hid (w2.heap[g]? = some (.cells (tmsC (twTs ts ks ++ [spT])).toArray 63 (0, 0))) := tms_full hO2
      have HW2 : Hid (Twd w w2 ts ks) := by
        have := HW.out.keep hF1 (fun j hj => by intro hh; simp at hh; subst hh; exact hgk hj)
        rw [HTK.out] at this
        exact this
      clear hO hg2 hF hO2 hF1 HW hgk
      go_wp2
      go_ret
      exact ⟨g, ks, rfl, hgw, HRow.out, HW2.out, hF2⟩
end Go.Proofs.YtaefninikmaiiaaGreatDoor
/- What the statements' helper LeftTxns answers of twins; a stronger word on TxnsSize; twins read as what they were made of. Conditions as each names them. -/
namespace Go.Proofs.YtaefninikmaiiaaGreatDoor
open Go.ChangeShapes Go.WideShapes Go.ChangeAt Go.RowKit Go.Lib
set_option linter.unusedVariables false
set_option linter.unusedSimpArgs false

set_option maxHeartbeats 4000000 in
set_option maxRecDepth 100000 in
theorem txnsSizeB_any (ao : Option Addr) (L cap : Nat) (ts : List Tm) (w : World) (hT : TRs w ao ts) (hL : L = ts.length) :
    Calls Tryz.prog 8 #[.slice ao L cap] w fun e w' => ∃ N : Nat, e = .returned (.int .i64 (N : Int)) ∧ N ≤ 9007199254740992 ∧ L ≤ N ∧ (N ≤ 1048576 → Few ts) ∧ Fr [] w w' := by
  have HL : Hid (L = ts.length) := hL
  have hLm : L ≤ 140737488355328 := by have := hT.few; omega
  clear hL
  go_enter Tryz.func8, Tryz.ntmps8
  go_wp2_with fail
  go_loopw [3, 4] (fun nn ii wr => ∃ (n i : Nat), nn = .int .i64 n ∧ ii = .int .i64 i ∧ i ≤ L ∧ n ≤ 9007199254740992 ∧ L ≤ n ∧ Hid (∀ j, j < i → (ts.getD j Tm.zero).L < n) ∧ Fr [] w wr) (fun _ ii _ => L - (RowKit.intOf ii).toNat)
  case atStart => exact ⟨L, 0, rfl, rfl, Nat.zero_le _, by omega, Nat.le_refl _, fun j hj => by omega, Fr.refl _ _⟩
  case round =>
    obtain ⟨n, i, rfl, rfl, hiL, hn, hLn, HE, hFr⟩ := hrel
    by_cases hi : i < L
    · by_cases hbig : n ≤ 1048576
      · have hi' : i < ts.length := by rw [← HL.out]; exact hi
        have hb' : (n : Int) ≤ 1048576 := by omega
        obtain ⟨bb, off, rfl, _, hc⟩ := (hT.keep hFr).lies (by omega)
        have hx := hc i hi'
        have hat := (hT.keep hFr).each _ (tgetD_mem ts i hi')
        obtain ⟨x, hxx⟩ : ∃ x, x = ts.getD i Tm.zero := ⟨_, rfl⟩
        rw [← hxx] at hx hat
        have HX : Hid (x = ts.getD i Tm.zero) := hxx
        clear hxx hc
        obtain ⟨nn, xo, M, cm, ws⟩ := x
        obtain ⟨c0, c1⟩ := hx
        simp only at c0 c1
        have hat' : TArg wr nn xo M cm ws := hat
        have hML := hat'.len
        have HML : Hid (M = ws.length) := hML
        clear hML
        go_wp2_with fail
        refine (txSize_any nn xo M cm ws _ hat'.rs hat'.len).mono ?_
        rintro e w2 ⟨K, rfl, hW, hF2⟩
        have hK : K ≤ 1125899906842624 := hW.2.1
        have hKM : M ≤ K := by have := hW.1; rw [HML.out]; exact this
        have HE2 : Hid (∀ j, j < i + 1 → (ts.getD j Tm.zero).L < n + (K + 1)) := by
          intro j hj
          by_cases hji : j = i
          · subst hji
            rw [← HX.out]
            show M < _
            omega
          · have := HE.out j (by omega); omega
        have hG2 := hFr.then hF2
        clear hat hat' hW hF2 hFr
        go_wp2
        go_roundw
        case rel => exact ⟨n + (K + 1), i + 1, by simp, by simp, by omega, by omega, by omega, HE2, hG2⟩
        case measure => simp [RowKit.intOf]; omega
      · have hb' : (1048576 : Int) < n := by omega
        have hb2 : ¬ ((n : Int) ≤ 1048576) := by omega
        go_wp2
        go_ret
        exact ⟨n, rfl, hn, hLn, fun h => absurd h hbig, hFr⟩
    · go_wp2
      go_ret
      refine ⟨n, rfl, hn, hLn, fun h t ht => ?_, hFr⟩
      obtain ⟨j, hj, rfl⟩ := List.getElem_of_mem ht
      have := HE.out j (by have := HL.out; omega)
      simp only [List.getD, List.getElem?_eq_getElem hj, Option.getD_some] at this
      omega
set_option maxHeartbeats 8000000 in
set_option maxRecDepth 100000 in
theorem leftTs_any (b : Nat) (ks : List Nat) (w0 : World) (ao : Option Addr) (L cap : Nat) (ts : List Tm) (w : World) (h : TRs w ao ts) (hLe : L = ts.length) (hL : L < 2^21) (hfew : Few ts) (hT : Twd w0 w ts ks) (hrow : w.heap[b]? = some (.cells (tmsC (twTs ts ks ++ [spT])).toArray 63 (0, 0))) :
    Calls Tryz.prog 14 #[.slice (some ⟨b, 0, none⟩) L (L + 1), .slice ao L cap] w fun e w' => e = .returned (.bool true) ∧ Fr [] w w' := by
  have HL : Hid (L = ts.length) := hLe
  have HFew : Hid (Few ts) := hfew
  have HT : Hid (Twd w0 w ts ks) := hT
  have hcl : ∀ j c, j < L + 1 → c < 2 → w.cell? ⟨b, j * 2 + c, none⟩ = (tmC ((twTs ts ks ++ [spT]).getD j Tm.zero))[c]? := by
    intro j c hj hc
    rw [cell_of_row _ _ _ _ _ _ hrow]
    have := tmsC_get (twTs ts ks ++ [spT]) j c (by rw [List.length_append, twTs_length ts ks hT.len, ← hLe]; simpa using hj) hc
    simpa using this
  have hlb := lt_of_block hrow
  have hct : ∀ j t k, ts[j]? = some t → ks[j]? = some k → w.cell? ⟨b, j * 2, none⟩ = some (.int .i64 t.n) ∧ w.cell? ⟨b, j * 2 + 1, none⟩ = some (.slice (some ⟨k, 0, none⟩) t.L (t.L + 1)) := by
    intro j t k ht hk
    have hj : j < ts.length := (List.getElem?_eq_some_iff.1 ht).1
    have hu : (twTs ts ks)[j]? = some (twT t k) := by
      unfold twTs
      rw [List.getElem?_zipWith, ht, hk]
    have e : (twTs ts ks ++ [spT]).getD j Tm.zero = twT t k := by
      rw [List.getD, List.getElem?_append_left (by rw [twTs_length ts ks hT.len]; exact hj), hu]
      rfl
    have a := hcl j 0 (by omega) (by omega)
    have c := hcl j 1 (by omega) (by omega)
    rw [e] at a c
    exact ⟨a, c⟩
  have hsp : w.cell? ⟨b, L * 2, none⟩ = some (.int .i64 7777) ∧ w.cell? ⟨b, L * 2 + 1, none⟩ = some (.slice none 0 0) := by
    have e : (twTs ts ks ++ [spT]).getD L Tm.zero = spT := by
      rw [List.getD, List.getElem?_append_right (by rw [twTs_length ts ks hT.len]; omega), twTs_length ts ks hT.len, hLe]
      simp
    have a := hcl L 0 (by omega) (by omega)
    have c := hcl L 1 (by omega) (by omega)
    rw [e] at a c
    exact ⟨a, c⟩
  have HCT : Hid (∀ j t k, ts[j]? = some t → ks[j]? = some k → _) := hct
  have hne : ((L : Int) != L) = false := by simp
  clear hLe hfew hT hrow hcl hct
  go_enter Tryz.func14, Tryz.ntmps14
  go_wp2_with fail
  go_loopw [5] (fun ii wr => ∃ (i : Nat), ii = .int .i64 i ∧ i ≤ L ∧ Fr [] w wr) (fun ii _ => L - (RowKit.intOf ii).toNat)
  case atStart => exact ⟨0, rfl, Nat.zero_le _, Fr.refl _ _⟩
  case round =>
    obtain ⟨i, rfl, hiL, hFr⟩ := hrel
    by_cases hi : i < L
    · have hix : i < ts.length := by rw [← HL.out]; exact hi
      have hik : i < ks.length := by rw [HT.out.len]; exact hix
      obtain ⟨b2, o2, rfl, hlt2, hc2⟩ := (h.keep hFr).lies (by omega)
      have hy := hc2 i hix
      have haty := (h.keep hFr).each _ (tgetD_mem ts i hix)
      have hfw := HFew.out _ (tgetD_mem ts i hix)
      have hty : ts[i]? = some (ts.getD i Tm.zero) := by simp [List.getD, hix]
      obtain ⟨k, hk⟩ : ∃ k, ks[i]? = some k := ⟨_, List.getElem?_eq_getElem hik⟩
      obtain ⟨c0, c1⟩ := HCT.out i _ k hty hk
      have hrowk := HT.out.row i _ k hty hk
      obtain ⟨y, hyy⟩ : ∃ y, y = ts.getD i Tm.zero := ⟨_, rfl⟩
      rw [← hyy] at hy haty c0 c1 hrowk hfw
      clear hyy hc2 hty hk
      obtain ⟨n2, x2, m2, k2, ws2⟩ := y
      obtain ⟨d0, d1⟩ := hy
      simp only at c0 c1 d0 d1 hrowk hfw
      have hay : TArg wr n2 x2 m2 k2 ws2 := haty
      have hST := leftTxn_any n2 k x2 m2 k2 ws2 wr.drew (hay.rs.keep (Fr.drew [] wr)) hay.len hfw ((hFr.then (Fr.drew [] wr)).keep hrowk (by simp))
      have p0 : wr.drew.cell? ⟨b, i * 2, none⟩ = some (.int .i64 n2) := (World.cell?_of_block ((hFr.then (Fr.drew [] wr)).block b hlb (by simp))).trans c0
      have p1 : wr.drew.cell? ⟨b, i * 2 + 1, none⟩ = some (.slice (some ⟨k, 0, none⟩) m2 (m2 + 1)) := (World.cell?_of_block ((hFr.then (Fr.drew [] wr)).block b hlb (by simp))).trans c1
      have g0 : wr.drew.cell? ⟨b2, o2 + i * 2, none⟩ = some (.int .i64 n2) := d0
      have g1 : wr.drew.cell? ⟨b2, o2 + i * 2 + 1, none⟩ = some (.slice x2 m2 k2) := d1
      have hq1 : b < wr.drew.heap.size := by have := (hFr.then (Fr.drew [] wr)).size; omega
      have hq2 : b2 < wr.drew.heap.size := hlt2
      have r0 : wr.cell? ⟨b, i * 2, none⟩ = some (.int .i64 n2) := p0
      have r1 : wr.cell? ⟨b, i * 2 + 1, none⟩ = some (.slice (some ⟨k, 0, none⟩) m2 (m2 + 1)) := p1
      clear haty hay hlt2 c0 c1 hrowk
      go_wp2_with fail
      go_region_held3 (fun W => W.cell? ⟨b, i * 2, none⟩ = some (.int .i64 n2) ∧ W.cell? ⟨b, i * 2 + 1, none⟩ = some (.slice (some ⟨k, 0, none⟩) m2 (m2 + 1)) ∧ W.cell? ⟨b2, o2 + i * 2, none⟩ = some (.int .i64 n2) ∧ W.cell? ⟨b2, o2 + i * 2 + 1, none⟩ = some (.slice x2 m2 k2)) (go_keep)
        (with_reducible refine hST.mono ?_; rintro e w2 ⟨rfl, hF2⟩; have z0 := (World.cell?_of_block (hF2.block b hq1 (by simp))).trans p0; have z1 := (World.cell?_of_block (hF2.block b hq1 (by simp))).trans p1; have z2 := (World.cell?_of_block (hF2.block b2 hq2 (by simp))).trans g0; have z3 := (World.cell?_of_block (hF2.block b2 hq2 (by simp))).trans g1)
      have hG2 := hFr.then ((Fr.drew [] wr).then hF2)
      clear hST hF2 d0 d1 p0 p1 g0 g1 r0 r1 z0 z1 z2 z3
      go_wp2
      go_roundw
      case rel => exact ⟨i + 1, by simp, by omega, hG2⟩
      case measure => simp [RowKit.intOf]; omega
    · obtain rfl : i = L := by omega
      have c0 : wr.cell? ⟨b, i * 2, none⟩ = some (.int .i64 7777) := (World.cell?_of_block (hFr.block b hlb (by simp))).trans hsp.1
      have c1 : wr.cell? ⟨b, i * 2 + 1, none⟩ = some (.slice none 0 0) := (World.cell?_of_block (hFr.block b hlb (by simp))).trans hsp.2
      go_wp2
      go_ret
      exact ⟨by simp, hFr.then (Fr.alloc [] _ _)⟩
/-- A twin reads as what it was made of. -/
theorem twin_at {w w' : World} {t : Tm} {k : Nat} (h : t.at w) (hr : w'.heap[k]? = some (.cells (wtsC (t.ws ++ [spW])).toArray 124 (0, 0))) : (twT t k).at w' :=
  ⟨WRs.of_row (rest := wtsC [spW]) (t := 124) (f := (0, 0)) (by rw [← wtsC_append]; exact hr) h.rs.few h.rs.each, h.len, h.n0, h.n1⟩
theorem twins_trs {w0 w w' : World} {ts : List Tm} {ks : List Nat} {b : Nat} {ao : Option Addr} (h : TRs w0 ao ts) (hT : Twd w w' ts ks) (hb : w'.heap[b]? = some (.cells (tmsC (twTs ts ks ++ [spT])).toArray 63 (0, 0))) : TRs w' (some ⟨b, 0, none⟩) (twTs ts ks) := by
  refine TRs.of_row (rest := tmsC [spT]) (t := 63) (f := (0, 0)) (by rw [← tmsC_append]; exact hb) (by rw [twTs_length ts ks hT.len]; exact h.few) ?_
  intro u hu
  obtain ⟨i, hi⟩ := List.getElem?_of_mem hu
  obtain ⟨t, k, ht, hk, rfl⟩ := twTs_get hi
  exact twin_at (h.each t (List.mem_of_getElem? ht)) (hT.row i t k ht hk)
end Go.Proofs.YtaefninikmaiiaaGreatDoor
