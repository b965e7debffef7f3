/- Texts of this claim laid together, one behind the other: contracts and plain lemmas; conditions as each names them. -/
import Derived.Test.YtomajifklajilaaGreatDoorGp23
import Derived.Laws.CopyOwn
/- Contracts of a ring's New, there, Len, Room, First, place, Close, Over. Conditions as each names them. -/
namespace Go.Proofs.YtomajifklajilaaGreatDoor
open Go.ChangeShapes Go.WideShapes Go.ChangeAt Go.RowKit Go.Lib
set_option linter.unusedVariables false
set_option linter.unusedSimpArgs false

theorem gnew_any (c : Int) (w : World) (hc : 1 ≤ c ∧ c ≤ 65536) : Calls Tryz.prog 59 #[.int .i64 c] w fun e w' => ∃ g, e = .returned (.tuple #[.pointer (some ⟨g, 0, none⟩), .int .i64 0]) ∧ w.heap.size ≤ g ∧ Rg w' g none c.toNat [] false ∧ Fr [] w w' := by
  obtain ⟨h1, h2⟩ := hc
  have HM : Hid (Rg (w.alloc (.cells #[.int .i64 c, .slice none 0 0, .int .i64 0, .int .i64 0, .bool false] 91)) w.heap.size none c.toNat [] false) := by
    refine ⟨0, 0, 0, [], ?_, Pl.nil, fun b e => (by cases e), ⟨fun _ => rfl, fun _ => rfl⟩, by omega, by omega, by omega⟩
    have e : ((c.toNat : Nat) : Int) = c := by omega
    rw [e]
    exact heap_alloc_new w _
  go_enter Tryz.func59, Tryz.ntmps59
  go_wp2
  refine bodyPost_ret (results_tmp2 rfl _ _ _) rfl ?_
  exact ⟨w.heap.size, rfl, Nat.le_refl _, HM.out, Fr.alloc _ _ _⟩
theorem gnew_no (c : Int) (w : World) (hc : c < 1 ∨ 65536 < c) : Calls Tryz.prog 59 #[.int .i64 c] w fun e w' => e = .returned (.tuple #[.pointer none, .int .i64 1]) ∧ w = w' := by
  by_cases h1 : c < 1
  · clear hc
    go_enter Tryz.func59, Tryz.ntmps59
    go_wp2
    refine bodyPost_ret (results_tmp2 rfl _ _ _) rfl ?_
    exact ⟨rfl, rfl⟩
  · have h2 : 65536 < c := by omega
    clear hc
    go_enter Tryz.func59, Tryz.ntmps59
    go_wp2
    refine bodyPost_ret (results_tmp2 rfl _ _ _) rfl ?_
    exact ⟨rfl, rfl⟩
/-- A ring that is not there: nil, or a zero struct. -/
def NoR (w : World) (p : Option Addr) : Prop := p = none ∨ ∃ z, p = some ⟨z, 0, none⟩ ∧ w.heap[z]? = some (.cells #[.int .i64 0, .slice none 0 0, .int .i64 0, .int .i64 0, .bool false] 91 (0, 0))
theorem NoR.keep {S : List Nat} {w w' : World} {p : Option Addr} (h : NoR w p) (hf : Fr S w w') (hn : ∀ a, p = some a → a.block ∉ S) : NoR w' p := by
  rcases h with h | ⟨z, e, hz⟩
  · exact Or.inl h
  · exact Or.inr ⟨z, e, hf.keep hz (hn _ e)⟩
theorem gthere_no (p : Option Addr) (w : World) (h : NoR w p) : Calls Tryz.prog 109 #[.pointer p] w fun e w' => e = .returned (.bool false) ∧ w = w' := by
  rcases h with rfl | ⟨z, rfl, hz⟩
  · go_enter Tryz.func109, Tryz.ntmps109
    go_wp2
    go_ret
    exact ⟨rfl, rfl⟩
  · have c0 : w.cell? ⟨z, 0, none⟩ = some (.int .i64 0) := by rw [cell_of_row _ _ _ _ _ _ hz]; rfl
    go_enter Tryz.func109, Tryz.ntmps109
    go_wp2
    go_ret
    exact ⟨rfl, rfl⟩
section
variable {g C N F K : Nat} {pb : Option Nat} {ps xs : List Rv} {cl : Bool}
theorem gthere_any (w : World) (h : RgM w g pb C N F K ps xs cl) : Calls Tryz.prog 109 #[.pointer (some ⟨g, 0, none⟩)] w fun e w' => e = .returned (.bool true) ∧ w = w' := by
  have c0 := h.c0
  have h1 : decide (0 < C) = true := by have := h.cap; simp; omega
  clear h
  go_enter Tryz.func109, Tryz.ntmps109
  go_wp2
  go_ret
  exact ⟨rfl, rfl⟩
theorem glen_any (w : World) (h : RgM w g pb C N F K ps xs cl) : Calls Tryz.prog 111 #[.pointer (some ⟨g, 0, none⟩)] w fun e w' => e = .returned (.int .i64 (K : Int)) ∧ w = w' := by
  have c3 := h.c3
  have HT : Hid (Calls _ _ _ _ _) := gthere_any w h
  clear h
  go_enter Tryz.func111, Tryz.ntmps111
  go_wp2_with fail
  refine Calls.mono HT.out ?_
  rintro e w1 ⟨rfl, rfl⟩
  go_wp2
  go_ret
  exact ⟨rfl, rfl⟩
theorem glen_no (p : Option Addr) (w : World) (h : NoR w p) : Calls Tryz.prog 111 #[.pointer p] w fun e w' => e = .returned (.int .i64 0) ∧ w = w' := by
  have HT : Hid (Calls _ _ _ _ _) := gthere_no p w h
  clear h
  go_enter Tryz.func111, Tryz.ntmps111
  go_wp2_with fail
  refine Calls.mono HT.out ?_
  rintro e w1 ⟨rfl, rfl⟩
  go_wp2
  go_ret
  exact ⟨rfl, rfl⟩
theorem groom_no (p : Option Addr) (w : World) (h : NoR w p) : Calls Tryz.prog 64 #[.pointer p] w fun e w' => e = .returned (.int .i64 0) ∧ w = w' := by
  have HT : Hid (Calls _ _ _ _ _) := gthere_no p w h
  clear h
  go_enter Tryz.func64, Tryz.ntmps64
  go_wp2_with fail
  refine Calls.mono HT.out ?_
  rintro e w1 ⟨rfl, rfl⟩
  go_wp2
  go_ret
  exact ⟨rfl, rfl⟩
theorem groom_any (w : World) (h : RgM w g pb C N F K ps xs cl) (R : Nat) (hR : R = if cl then 0 else C - K) : Calls Tryz.prog 64 #[.pointer (some ⟨g, 0, none⟩)] w fun e w' => e = .returned (.int .i64 (R : Int)) ∧ Fr [] w w' := by
  have HT : Hid (Calls _ _ _ _ _) := gthere_any w h
  have c0 := h.c0
  have c3 := h.c3
  have c4 := h.c4
  have h1 : K ≤ C := by have := h.cap; have := h.pl.fit; omega
  have h2 : C ≤ 65536 := h.cap.2.1
  cases cl with
  | true =>
    obtain rfl : R = 0 := by simpa using hR
    clear h hR
    go_enter Tryz.func64, Tryz.ntmps64
    go_wp2_with fail
    refine Calls.mono HT.out ?_
    rintro e w1 ⟨rfl, rfl⟩
    go_wp2
    go_ret
    exact ⟨rfl, Fr.refl _ _⟩
  | false =>
    have HR : Hid (R = C - K) := by show R = C - K; simpa using hR
    have hw : IntKind.i64.wrap ((C : Int) - (K : Int)) = ((R : Nat) : Int) := by
      have := HR.out
      rw [IntKind.wrap_i64]
      omega
    clear h hR
    go_enter Tryz.func64, Tryz.ntmps64
    go_wp2_with fail
    refine Calls.mono HT.out ?_
    rintro e w1 ⟨rfl, rfl⟩
    go_wp2_with fail
    go_quiet (fail)
    go_wp2
    go_ret
    refine ⟨?_, Fr.drewN _ _ _⟩
    rfl
theorem gplace_any (w : World) (n : Nat) (P : Nat) (h : RgM w g pb C N F K ps xs cl) (hN : 0 < N) (hn : n ≤ N) (hP : P = atN F n N) : Calls Tryz.prog 66 #[.pointer (some ⟨g, 0, none⟩), .int .i64 (n : Int)] w fun e w' => e = .returned (.int .i64 (P : Int)) ∧ Fr [] w w' := by
  have c1 := h.c1
  have c2 := h.c2
  have hF := h.pl.f1 hN
  have h2 : N ≤ 65536 := by have := h.cap; omega
  have hm : ((F : Int) + (n : Int)).tmod (N : Int) = (P : Int) := by
    rw [hP, ← atN_mod hF hn]
    norm_cast
  have hm2 : ((F : Int) + (n : Int)) % (N : Int) = (P : Int) := by
    rw [hP, ← atN_mod hF hn]
    norm_cast
  obtain ⟨q, hq⟩ : ∃ q, q = pb.map fun b => (⟨b, 0, none⟩ : Addr) := ⟨_, rfl⟩
  rw [← hq] at c1
  have hN0 : ¬ (N : Int) = 0 := by omega
  have hN1 : ¬ N = 0 := by omega
  clear h hP hq
  go_enter Tryz.func66, Tryz.ntmps66
  go_wp2_with fail
  go_quiet (fail)
  go_wp2
  go_ret
  refine ⟨?_, Fr.drewN _ _ _⟩
  first
    | rw [hm]
    | rw [hm2]
    | rfl
theorem RgM.some_ {w : World} (h : RgM w g pb C N F K ps xs cl) (hN : 0 < N) : ∃ b, pb = some b := by
  cases pb with
  | none => have := h.none_.1 rfl; omega
  | some b => exact ⟨b, rfl⟩
end
end Go.Proofs.YtomajifklajilaaGreatDoor
/- copy of things of several cells into a row of one's own, as one step of a drawn region. Conditions as each names them. -/
namespace Go.Proofs.YtomajifklajilaaGreatDoor
open Go.ChangeShapes Go.WideShapes Go.ChangeAt Go.RowKit Go.Lib
set_option linter.unusedVariables false
set_option linter.unusedSimpArgs false

theorem Tryz.undReqs : Tryz.prog.underlying 89 = some (.slice 28) := by kernel_rfl
theorem Tryz.infoReq : (Tryz.prog.info? 28).map (fun i => (i.zero, i.size, i.bytes)) = some (some Rv.zero.v, 9, 120) := by kernel_rfl
theorem infoReq_parts : ∃ i, Tryz.prog.info? 28 = some i ∧ i.zero = some Rv.zero.v ∧ i.size = 9 ∧ i.bytes = 120 := by
  have h := Tryz.infoReq
  cases hi : Tryz.prog.info? 28 with
  | none => rw [hi] at h; cases h
  | some i =>
    rw [hi] at h
    simp only [Option.map_some, Option.some.injEq, Prod.mk.injEq] at h
    exact ⟨i, rfl, h.1, h.2.1, h.2.2⟩
theorem qrow_setCell {w : World} {b j : Nat} {cs : Array Value} {t : TypeId} (x : Value) (h : w.heap[b]? = some (.cells cs t (0, 0))) : (w.setCell ⟨b, j, none⟩ x).heap[b]? = some (.cells (cs.setIfInBounds j x) t (0, 0)) := by
  have hlt := lt_of_block h
  have h' : w.heap[b] = .cells cs t (0, 0) := by simpa [Array.getElem?_eq_getElem hlt] using h
  show (w.heap.modify b _)[b]? = _
  rw [Array.getElem?_eq_getElem (by simpa using hlt), Array.getElem_modify_self, h']
  rfl
theorem setCells_row {b : Nat} {t : TypeId} : ∀ (vs : List Value) (o : Nat) (w : World) (cur : Array Value), w.heap[b]? = some (.cells cur t (0, 0)) → o + vs.length ≤ cur.size → (w.setCells b o vs).heap[b]? = some (.cells (splice cur.toList o vs).toArray t (0, 0)) ∧ Fr [b] w (w.setCells b o vs)
  | [], o, w, cur, h, hl => by
    refine ⟨?_, Fr.refl _ _⟩
    rw [World.setCells, h]
    simp [splice]
  | v :: r, o, w, cur, h, hl => by
    simp only [List.length_cons] at hl
    have h1 := qrow_setCell (j := o) v h
    obtain ⟨h2, h3⟩ := setCells_row r (o + 1) (w.setCell ⟨b, o, none⟩ v) _ h1 (by simp; omega)
    rw [World.setCells]
    refine ⟨?_, (Fr.set (S := [b]) _ _ _ (by simp)).then h3⟩
    rw [h2]
    congr 3
    have e := list_seg_step cur.toList o v r (by simp; omega)
    simp only [splice, Array.toList_setIfInBounds]
    rw [← List.append_assoc, e]
    simp [Nat.add_assoc, Nat.add_comm 1]
theorem run_copy_many (P : Program) (w : World) (dT sT ty elem : TypeId) (g o dLen dCap : Nat) (a : Addr) (sLen sCap : Nat) (cur : Array Value) (t : TypeId) (cs : List Value) (sz n : Nat)
    (hu : P.underlying dT = some (.slice elem)) (hs : (P.info? elem).map (·.size) = some sz)
    (hg : w.heap[g]? = some (.cells cur t (0, 0))) (hm : n = Nat.min sLen dLen) (hn : cs.length = n * sz)
    (hsrc : ∀ j v, cs[j]? = some v → w.cell? (a.add j) = some v) (hfit : o + cs.length ≤ cur.size) (h1 : ∀ v ∈ cs, v.oneCell' = true) :
    (Builtin.copy_ #[dT, sT] ty #[.slice (some ⟨g, o, none⟩) dLen dCap, .slice (some a) sLen sCap]).run P w =
      .ok (goInt n) (w.setRow g (cur.toList.take o ++ cs ++ cur.toList.drop (o + cs.length)).toArray) := by
  have hl := run_loadCells_list (P := P) w a cs hsrc
  have hst := run_storeCells_at P g o t cs 0 cur w hg (by simpa using hfit) h1
  cases hq : P.info? elem with
  | none => simp [hq] at hs
  | some i =>
    have hi : i.size = sz := by simpa [hq] using hs
    simp [Builtin.copy_, run_underlying hu, Builtin.lenOf, Builtin.firstCells, sizeOf, typeInfo, hq, hi, ← hm, ← hn, hl, hst]
theorem run_copy_zero (P : Program) (w : World) (dT sT ty elem : TypeId) (d a : Option Addr) (dLen dCap sLen sCap sz : Nat) (hu : P.underlying dT = some (.slice elem)) (hs : (P.info? elem).map (·.size) = some sz) (hn : Nat.min sLen dLen = 0) :
    (Builtin.copy_ #[dT, sT] ty #[.slice d dLen dCap, .slice a sLen sCap]).run P w = .ok (goInt 0) w := by
  cases hq : P.info? elem with
  | none => simp [hq] at hs
  | some i =>
    have hl : ∀ (x : Addr), (loadCells x 0).run P w = .ok #[] w := fun x => by simpa using run_loadCells_list (P := P) w x [] (by simp)
    cases d <;> cases a <;> simp [Builtin.copy_, run_underlying hu, Builtin.lenOf, Builtin.firstCells, sizeOf, typeInfo, hq, hn, storeCells, hl]
theorem step_copy_many {P : Program} {ops : Array Oper} {o : Oper} {a : Act} {w : World} {K : Act → World → Prop} {Q : Exit → Act → World → Prop} {E : Prop} (hgd : o.guard = none) (d s : Operand) (dT sT : TypeId)
    (ho : o.op = .call { callee := .builtin .copy, args := #[d, s], argTypes := #[dT, sT] }) (elem : TypeId) (hu : P.underlying dT = some (.slice elem)) (sz : Nat) (hsz : (P.info? elem).map (·.size) = some sz)
    (dp sp : Option Addr) (dLen dCap sLen sCap : Nat) (hd : a.eval d = .slice dp dLen dCap) (hs : a.eval s = .slice sp sLen sCap)
    (g off : Nat) (cur : List Value) (t : TypeId) (hg : w.heap[g]? = some (.cells cur.toArray t (0, 0))) (cs : List Value) (n : Nat) (hm : n = Nat.min sLen dLen) (hn : cs.length = n * sz)
    (hpos : 0 < n → dp = some ⟨g, off, none⟩ ∧ ∃ ad, sp = some ad ∧ ∀ j v, cs[j]? = some v → w.cell? (ad.add j) = some v)
    (hfit : off + cs.length ≤ cur.length) (h1 : ∀ v ∈ cs, v.oneCell' = true) (B : Nat) (w0 : World) (hb : RowKit.Below B w0 w) (hBg : B ≤ g)
    (h : ∀ w', RowKit.Hid (w'.heap[g]? = some (.cells (splice cur off cs).toArray t (0, 0))) → RowKit.Below B w0 w' → K (a.put o.dst (goInt n)) w') :
    if Region.wanted o (yielded ops a.tmps) = true then Oper.wp P o a w K Q else E := by
  have hw : Region.wanted o (yielded ops a.tmps) = true := by simp [Region.wanted, hgd]
  rw [if_pos hw]
  by_cases h0 : n = 0
  · subst h0
    obtain rfl : cs = [] := List.eq_nil_of_length_eq_zero (by rw [hn, Nat.zero_mul])
    have hrun := run_copy_zero P w dT sT o.type elem dp sp dLen dCap sLen sCap sz hu hsz hm.symm
    unfold Oper.wp
    simp [execOp, ho, resolve, invoke, builtin, hd, hs, hrun, Result.andThen]
    exact h w (show _ = _ by simpa [splice] using hg) hb
  · obtain ⟨rfl, ad, rfl, hsrc⟩ := hpos (by omega)
    have hrun := run_copy_many P w dT sT o.type elem g off dLen dCap ad sLen sCap cur.toArray t cs sz n hu hsz hg hm hn hsrc (by simpa using hfit) h1
    unfold Oper.wp
    simp [execOp, ho, resolve, invoke, builtin, hd, hs, hrun, Result.andThen]
    exact h _ (show _ = _ by simpa [splice] using setRow_heap w g _ _ t _ hg) (below_setRow hb hBg _)
end Go.Proofs.YtomajifklajilaaGreatDoor
