/- Lists of keys with their versions that the taker takes. Conditions as each names them. -/
import Derived.Test.YtdojhkgnnbdfkaaGreatLh18
namespace Go.Proofs.YtdojhkgnnbdfkaaGreat
open Go.ChangeShapes Go.WideShapes Go.ChangeAt Go.RowKit Go.Lib Go.Maps
set_option linter.unusedVariables false
set_option linter.unusedSimpArgs false

theorem HOut.keepS {S : List Nat} {w w1 w2 : World} {ro : Option Addr} {N rc : Nat} {hs : List Hd} (h : HOut w w1 ro N rc hs) (hf : Fr S w1 w2) (hrow : ∀ k, (Value.slice ro N rc).ownBlock = some k → k ∉ S) (hv : ∀ j cur, w1.heap[j]? = some (.cells cur 74 (0, 0)) → j ∉ S) : HOut w w2 ro N rc hs :=
  ⟨h.len, owns_keepB h.row hf hrow, fun x hx => (h.each x hx).keepS hf (fun j hj => by obtain ⟨_, cur, hc⟩ := (h.each x hx).blk j hj; exact hv j cur hc), h.apart⟩
theorem HOut.keepT {w w1 w2 : World} {t g r : Nat} {ys : List Nat} {ro : Option Addr} {N rc : Nat} {hs : List Hd} (h : HOut w w1 ro N rc hs) (hT : Tl w1 t g r ys) (hf : Fr [t, g] w1 w2) : HOut w w2 ro N rc hs :=
  h.keepS hf (hT.noOwn h.row (by decide) (by decide)) (fun j cur hc hm => hT.ntype (by decide) (by decide) j hm cur hc)
/-- What the loop over keys keeps. -/
structure LhI (w wr : World) (t g r : Nat) (so : Option Addr) (N c : Nat) (hs : List Hd) (ys : List Nat) : Prop where
  tl : Tl wr t g r ys
  ho : HOut w wr so N c hs
  fr : Fr [t, g] w wr
theorem LhI.app {w wr w2 w3 w4 : World} {t g r : Nat} {so so' : Option Addr} {N c c' : Nat} {hs : List Hd} {ys zs : List Nat} {p : Hd} (h : LhI w wr t g r so N c hs ys) (hr : r < w.heap.size) (hF2 : Fr [t, g] wr w2) (hT2 : Tl w2 t g r zs) (hF3 : Fr [] w2 w3) (hrow : HOut w w4 so' (N + 1) c' (hs ++ [p])) (hF4 : Fr (Value.slice so N c).ownBlock.toList w3 w4) :
    LhI w w4 t g r so' (N + 1) c' (hs ++ [p]) zs := by
  have hown2 := owns_keepB h.ho.row hF2 (h.tl.noOwn h.ho.row (by decide) (by decide))
  have hown3 := owns_keepB hown2 hF3 (by simp)
  have hT3 := hT2.keep0 hF3
  obtain ⟨a1, a2, a3⟩ := hT3.noOwnR w hr hown3 (by decide) (by decide)
  exact ⟨hT3.keep hF4 a1 a2 a3, hrow, ((h.fr.then hF2).then (hF3.mono (by simp))).trans hF4 (fun _ x _ => x) (fun x hx hl => by have := (owns_cells hown3 (Option.mem_toList.1 hx)).1; omega)⟩
/-- What a list of keys is taken to. -/
def LhP (t g r : Nat) (xs : List Nat) (w : World) (e : Ending) (w' : World) : Prop :=
  (∃ c, dL dK xs = .error c ∧ e = .returned (.slice none 0 0) ∧ Td w' t g c ∧ Fr [t, g] w w') ∨ (∃ ro N rc hs ys, dL dK xs = .ok (hs.map Hd.kv, ys) ∧ N ≤ 65536 ∧ e = .returned (.slice ro N rc) ∧ HOut w w' ro N rc hs ∧ Tl w' t g r ys ∧ Fr [t, g] w w')
set_option maxHeartbeats 8000000 in
set_option maxRecDepth 100000 in
theorem listH_any (t g r : Nat) (xs : List Nat) (w : World) (h : Tl w t g r xs) :
    Calls Tryz.prog 108 #[.pointer (some ⟨t, 0, none⟩), .func (Fn.func 109) #[.pointer (some ⟨t, 0, none⟩)] #[]] w fun e w' => LhP t g r xs w e w' := by
  have hrl : r < w.heap.size := by obtain ⟨ao, cap, hR⟩ := h.rd; exact hR.sl.blk
  have HC : Hid (Calls _ _ _ _ _) := number_any t g r xs w h
  have HRl : Hid (r < w.heap.size) := hrl
  clear h hrl
  go_enter Tryz.func108, Tryz.ntmps108
  go_wp2_with fail
  refine Calls.mono HC.out ?_
  rintro e w1 (⟨c, h1, rfl, hT1, hF1⟩ | ⟨n, zs, h1, rfl, hT1, hF1⟩)
  · have HR : Hid (LhP t g r xs w (.returned (.slice none 0 0)) w1) := Or.inl ⟨c, dL_no h1, rfl, hT1, hF1⟩
    clear h1 hT1 hF1 HC HRl
    go_wp2_with fail
    go_loopw [5, 9] (fun ll ii wr => ll = .slice none 0 0 ∧ ii = .int .i64 0 ∧ w1 = wr) (fun _ ii _ => 0)
    case atStart => exact ⟨rfl, rfl, rfl⟩
    case round =>
      obtain ⟨rfl, rfl, rfl⟩ := hrel
      go_wp2
      go_ret
      exact HR.out
  · have hn := dN_few h1
    have HD : Hid (dL dK xs = dR dK n zs) := dL_of h1
    have HI0 : Hid (LhI w w1 t g r none 0 0 [] zs) := ⟨hT1, ⟨rfl, ⟨rfl, .inl ⟨rfl, rfl⟩⟩, by simp, List.Pairwise.nil⟩, hF1⟩
    clear h1 hT1 hF1 HC
    go_wp2_with fail
    go_loopw [5, 9] (fun ll ii wr => ∃ (so : Option Addr) (N c : Nat) (hs : List Hd) (ys : List Nat), ll = .slice so N c ∧ ii = .int .i64 N ∧ N ≤ n ∧ Hid (dR dK n zs = gl (hs.map Hd.kv) (dR dK (n - N) ys)) ∧ Hid (LhI w wr t g r so N c hs ys)) (fun _ ii _ => n - (RowKit.intOf ii).toNat)
    case atStart => exact ⟨none, 0, 0, [], zs, rfl, rfl, Nat.zero_le _, by show _ = _; rw [List.map_nil, gl_nil]; rfl, HI0⟩
    case round =>
      obtain ⟨so, N, c, hs, ys, rfl, rfl, hNn, HG, HI⟩ := hrel
      by_cases hi : N < n
      · obtain ⟨m, hm⟩ : ∃ m, n - N = m + 1 := ⟨n - N - 1, by omega⟩
        have hlt : (N : Int) < n := by omega
        have HV : Hid (Calls _ _ _ _ _) := held_any t g r ys wr HI.out.tl
        have HM : Hid (n - N = m + 1) := hm
        clear hm
        go_wp2_with fail
        refine Calls.mono HV.out ?_
        rintro e w2 (⟨cc, s, h2, rfl, hT2, hF2⟩ | ⟨k, vo, Lv, cv, vs, us, h2, rfl, hV2, hT2, hF2⟩)
        · have HR : Hid (∀ w3, Fr [] w2 w3 → LhP t g r xs w (.returned (.slice none 0 0)) w3) := fun w3 hf => Or.inl ⟨cc, by rw [HD.out, HG.out, HM.out, gl_err h2], rfl, hT2.keep0 hf, (HI.out.fr.then hF2).then (hf.mono (by simp))⟩
          have hcb : ((cc : Int) != 0) = true := by rw [bne_iff_ne]; have := hT2.bad; omega
          have d1 := (hT2.keep0 (Fr.alloc [] w2 (.cells #[.string s, .slice none 0 0] 58))).tb.c1
          clear h2 hT2 hF2 HV HI HG
          go_wp2
          go_ret
          exact HR.out _ (Fr.alloc [] _ _)
        · have HG2 : Hid (dR dK n zs = gl ((hs ++ [(⟨k, vo, Lv, cv, vs⟩ : Hd)]).map Hd.kv) (dR dK (n - (N + 1)) us)) := by
            show _ = _
            rw [HG.out, HM.out, gl_ok h2]
            have := HM.out
            rw [show n - (N + 1) = m by omega, List.map_append]
            rfl
          obtain ⟨w3, HW3⟩ : ∃ w3, Hid (w2.alloc (.cells #[.string k, .slice vo Lv cv] 58) = w3) := ⟨_, rfl⟩
          have hF3 : Fr [] w2 w3 := by rw [← HW3.out]; exact Fr.alloc [] w2 _
          have hb3 : w3.heap[w2.heap.size]? = some (.cells #[.string k, .slice vo Lv cv] 58 (0, 0)) := by rw [← HW3.out]; exact heap_alloc_new w2 _
          have x0 : w3.cell? ⟨w2.heap.size, 0, none⟩ = some (.string k) := by rw [cell_of_row _ _ _ _ _ _ hb3]; rfl
          have x1 : w3.cell? ⟨w2.heap.size, 1, none⟩ = some (.slice vo Lv cv) := by rw [cell_of_row _ _ _ _ _ _ hb3]; rfl
          have d1 := (hT2.keep0 hF3).tb.c1
          have HO3 : Hid (HOut w w3 so N c hs) := (HI.out.ho.keepT HI.out.tl hF2).keep hF3
          have hsz3 : w.heap.size ≤ w3.heap.size := Nat.le_trans HI.out.fr.size (Nat.le_trans hF2.size hF3.size)
          have HV3 : Hid (VOut w w3 vo Lv cv vs) := (hV2.keepS hF3 (by simp)).later HI.out.fr.size
          have HAp : Hid (∀ x ∈ hs, Apa x.vo vo) := HI.out.ho.newApart hV2
          have HY : Hid (∀ so' c' w4, HOut w w4 so' (N + 1) c' (hs ++ [⟨k, vo, Lv, cv, vs⟩]) → Fr (Value.slice so N c).ownBlock.toList w3 w4 → LhI w w4 t g r so' (N + 1) c' (hs ++ [⟨k, vo, Lv, cv, vs⟩]) us) := fun so' c' w4 e1 e2 => HI.out.app HRl.out hF2 hT2 hF3 e1 e2
          have hN1 : N < 3518437208883 := by omega
          clear h2 hT2 hF2 HV HG HM hb3 HI hF3 hV2
          go_upto_region 5 with fail
          rw [HW3.out]
          go_wp2_with (first
            | (at_builtin; refine wpList_appH w w3 rfl _ _ rfl so N c hs rfl HO3.out hN1 hsz3 ⟨k, vo, Lv, cv, vs⟩ HV3.out HAp.out rfl ?_
               intro so' c' w4 e1 e2
               have HR2 : Hid (LhI w w4 t g r so' (N + 1) c' (hs ++ [⟨k, vo, Lv, cv, vs⟩]) us) := HY.out so' c' w4 e1 e2
               clear e1 e2
               go_frame)
            | fail)
          go_roundw
          case rel => exact ⟨so', N + 1, c', _, us, rfl, by simp, by omega, HG2, HR2⟩
          case measure => simp [RowKit.intOf]; omega
      · have hN2 : n - N = 0 := by omega
        have HR : Hid (LhP t g r xs w (.returned (.slice so N c)) wr) := Or.inr ⟨so, N, c, hs, ys, by rw [HD.out, HG.out, hN2, gl_end], by omega, rfl, HI.out.ho, HI.out.tl, HI.out.fr⟩
        have hlt : ¬ (N : Int) < n := by omega
        clear hN2 HI HG
        go_wp2
        go_ret
        exact HR.out
end Go.Proofs.YtdojhkgnnbdfkaaGreat
