/- The document's keys with their versions in memory of their own: contract of Own. Conditions as each names them. -/
import Derived.Test.YtldghdbfhikcoaaGreatDoorHk9
import Derived.Test.YtldghdbfhikcoaaGreatDoorLk18
import Derived.Laws.AppendOwn
namespace Go.Proofs.YtldghdbfhikcoaaGreatDoor
open Go.ChangeShapes Go.WideShapes Go.ChangeAt Go.RowKit Go.Lib Go.Maps
set_option linter.unusedVariables false
set_option linter.unusedSimpArgs false

/-- Nothing behind nothing. -/
theorem wpList_append_zero {P : Program} {w : World} {ops : Array Oper} {rest : List Oper} {o : Oper} {a : Act} {Q : Exit → Act → World → Prop} (hgd : o.guard = none) (s x : Operand) (t : TypeId)
    (ho : o.op = .call { callee := .builtin .append, args := #[s, x], argTypes := #[t, t] })
    (e : TypeId) (i : TypeInfo) (ht : P.underlying t = some (.slice e)) (hi : P.info? e = some i)
    (hs : a.eval s = .slice none 0 0) (xo : Option Addr) (xc : Nat) (hx : a.eval x = .slice xo 0 xc)
    (h : wpList P ops Q rest (a.put o.dst (.slice none 0 0)) w) : wpList P ops Q (o :: rest) a w := by
  refine wpList_plain hgd fun K hK => ?_
  have hl : ∀ (x : Addr), (loadCells x 0).run P w = .ok #[] w := fun x => by simpa using run_loadCells_list (P := P) w x [] (by simp)
  have hrun : (Builtin.append_ #[t, t] o.type #[.slice none 0 0, .slice xo 0 xc]).run P w = .ok (.slice none 0 0) w := by
    cases xo <;> simp [Builtin.append_, run_underlying ht, sizeOf, typeInfo, hi, Builtin.lenOf, Builtin.firstCells, hl, storeCells]
  unfold Oper.wp
  simp [execOp, ho, resolve, invoke, builtin, hs, hx, hrun, Result.andThen]
  exact hK _ _ h
/-- All versions of a row that can be read, behind nothing. -/
theorem wpList_allV (w : World) {ops : Array Oper} {rest : List Oper} {o : Oper} {a : Act} {Q : Exit → Act → World → Prop} (hgd : o.guard = none) (s x : Operand)
    (ho : o.op = .call { callee := .builtin .append, args := #[s, x], argTypes := #[71, 71] })
    (hs : a.eval s = .slice none 0 0) (xo : Option Addr) (M xc : Nat) (vs : List Vn) (hx : a.eval x = .slice xo M xc) (hV : VRs w xo vs) (hM : M = vs.length)
    (h : ∀ bo rc w', VOut w w' bo M rc vs → Fr [] w w' → wpList Tryz.prog ops Q rest (a.put o.dst (.slice bo M rc)) w') : wpList Tryz.prog ops Q (o :: rest) a w := by
  obtain ⟨i0, hi, hz0, hz1, hz2⟩ := infoVn_parts
  by_cases h0 : 0 < M
  · obtain ⟨b, off, e, _, _⟩ := hV.lies (by omega)
    subst e
    have hfew := hV.few
    refine wpList_append_own w hgd s x 71 ho w.heap.size 80 i0 _ 3 32 Tryz.undVns' hi hz0 hz1 hz2 rfl (by decide) (.slice none 0 0) 0 [] hs (World.ownsRow_nil _ _ _ _) ⟨b, off, none⟩ M xc (vnsC vs) hx (by rw [vnsC_length, hM]) (fun j u hu => ?_) (vnsC_oneCell vs) (by unfold maxLen; omega) (by omega) (Nat.le_refl _) ?_
    · obtain ⟨b', off', e, hc⟩ := hV.cells hu
      cases e
      rw [Addr.add_lit]
      exact hc
    · intro v' w' hown hg _
      rw [Nat.zero_add, List.nil_append] at hown
      obtain ⟨bo, rc, rfl⟩ := own_shapeV hown
      exact h bo rc w' (VOut.of hown hM) (Fr.grown (S := []) hg (fun k hk => by simp [Value.ownBlock] at hk))
  · obtain rfl : M = 0 := by omega
    have hvs : vs = [] := List.eq_nil_of_length_eq_zero hM.symm
    subst hvs
    exact wpList_append_zero hgd s x 71 ho 80 i0 Tryz.undVns' hi hs xo xc hx (h none 0 w (VOut.of (World.ownsRow_nil _ _ _ _) rfl) (Fr.refl _ _))
theorem HOut.later {w w1 w2 : World} {ro : Option Addr} {N rc : Nat} {hs : List Hd} (h : HOut w1 w2 ro N rc hs) (hz : w.heap.size ≤ w1.heap.size) : HOut w w2 ro N rc hs := ⟨h.len, own_base h.row hz, fun x hx => (h.each x hx).later hz, h.apart⟩

set_option maxHeartbeats 4000000 in
set_option maxRecDepth 100000 in
theorem kown_any (ao : Option Addr) (L cap : Nat) (hs : List Hd) (w : World) (hH : HRs w ao hs) (hL : L = hs.length) :
    Calls Tryz.prog 97 #[.slice ao L cap] w fun e w' => ∃ ro rc gs, e = .returned (.slice ro L rc) ∧ HOut w w' ro L rc gs ∧ gs.map Hd.kv = hs.map Hd.kv ∧ Fr [] w w' := by
  have HL : Hid (L = hs.length) := hL
  have hfew : L ≤ 3518437208882 := by rw [hL]; exact hH.few
  clear hL
  go_enter Tryz.func97, Tryz.ntmps97
  go_wp2_with fail
  go_loopw [3, 4] (fun vv ii wr => ∃ (i rc : Nat) (ro : Option Addr) (gs : List Hd), vv = .slice ro i rc ∧ ii = .int .i64 i ∧ i ≤ L ∧ Hid (HOut w wr ro i rc gs) ∧ Hid (gs.map Hd.kv = (hs.take i).map Hd.kv) ∧ Fr [] w wr) (fun _ ii _ => L - (RowKit.intOf ii).toNat)
  case atStart => exact ⟨0, 0, none, [], rfl, rfl, Nat.zero_le _, ⟨rfl, World.ownsRow_nil _ _ _ _, by simp, List.Pairwise.nil⟩, rfl, Fr.refl _ _⟩
  case round =>
    obtain ⟨i, rc, ro, gs, rfl, rfl, hiL, HO, HG, hFr⟩ := hrel
    by_cases hi : i < L
    · have hi' : i < hs.length := by rw [← HL.out]; exact hi
      obtain ⟨b, off, e9, _, hc⟩ := (hH.keep hFr).lies (by omega)
      subst e9
      obtain ⟨c0, c1⟩ := hc i hi'
      have hE := (hH.keep hFr).each _ (hgetD_mem hs i hi')
      have HT : Hid ((hs.take (i + 1)).map Hd.kv = (hs.take i).map Hd.kv ++ [(hs.getD i Hd.zero).kv]) := by show _ = _; rw [htake_snoc hs i hi', List.map_append]; rfl
      obtain ⟨x, hx⟩ : ∃ x, x = hs.getD i Hd.zero := ⟨_, rfl⟩
      rw [← hx] at c0 c1 hE HT
      clear hc hx
      obtain ⟨key, vo, M, cm, vs⟩ := x
      simp only at c0 c1
      have HM : Hid (M = vs.length) := hE.len
      have HV : Hid (VRs wr vo vs) := hE.rs
      have HC : Hid (∀ W, Fr [] wr W → W.cell? ⟨b, off + i * 2, none⟩ = some (.string key)) := fun W hf => by
        have hlt := World.block_lt_of_cell? wr _ c0
        exact (World.cell?_of_block (hf.block b hlt (by simp))).trans c0
      clear hE
      go_wp2_with (at_builtin; refine wpList_allV wr rfl (.tmp 12) (.tmp 17) rfl rfl vo M cm vs rfl HV.out HM.out ?_)
      intro bo bc w4 hV4 hF4
      have hG4 := hFr.then hF4
      have d0 := HC.out _ hF4
      have HTk : Hid (HOut w w4 ro i rc gs) := HO.out.keep hF4
      have HWk : Hid (VOut w w4 bo M bc vs) := hV4.later hFr.size
      have hsz : w.heap.size ≤ w4.heap.size := hG4.size
      have HOn : Hid (∀ w8, Fr (Value.slice ro i rc).ownBlock.toList w4 w8 → Fr [] w w8) := fun w8 hF8 => hG4.on hF8 (fun x hx => (owns_cells HTk.out.row (Option.mem_toList.1 hx)).1)
      have HApx : Hid (∀ x ∈ gs, Apa x.vo bo) := HO.out.newApart hV4
      clear hV4 hF4 hG4 hFr HO c0 c1 HV HC
      go_wp2_with (at_builtin; refine wpList_appH w w4 rfl _ _ rfl ro i rc gs rfl HTk.out (by omega) hsz ⟨key, bo, M, bc, vs⟩ HWk.out HApx.out rfl ?_)
      intro so3 c3 w8 hK8 hF8
      have HK8 : Hid (HOut w w8 so3 (i + 1) c3 (gs ++ [⟨key, bo, M, bc, vs⟩])) := hK8
      have hG8 := HOn.out _ hF8
      have HG8 : Hid ((gs ++ [(⟨key, bo, M, bc, vs⟩ : Hd)]).map Hd.kv = (hs.take (i + 1)).map Hd.kv) := by show _ = _; rw [HT.out, List.map_append, HG.out]; rfl
      clear hK8 hF8 HTk HWk
      go_wp2
      go_roundw
      case rel => exact ⟨i + 1, c3, so3, _, rfl, by simp, by omega, HK8, HG8, hG8⟩
      case measure => simp [RowKit.intOf]; omega
    · obtain rfl : i = L := by omega
      have HG2 : Hid (gs.map Hd.kv = hs.map Hd.kv) := by show _ = _; rw [HG.out, List.take_of_length_le (by rw [← HL.out]; omega)]
      go_wp2
      go_ret
      exact ⟨ro, rc, gs, rfl, HO.out, HG2.out, hFr⟩
end Go.Proofs.YtldghdbfhikcoaaGreatDoor
