/- Contracts and plain lemmas of this claim. -/
import Derived.Test.YtembflnhhfliaaaGreatDoorGp22
import Derived.Test.YtembflnhhfliaaaGreatDoorGp26
import Derived.Test.YtembflnhhfliaaaGreatDoorGp12
import Derived.Test.YtembflnhhfliaaaGreatDoorGp18
import Derived.Test.YtembflnhhfliaaaGreatDoorGp19
import Derived.Deep.RegionHeld3
set_option linter.unusedSimpArgs false
set_option linter.unusedVariables false
set_option maxHeartbeats 4000000
set_option maxRecDepth 100000
namespace Go.Proofs.YtembflnhhfliaaaGreatDoor.Bq
open Go.ChangeShapes Go.WideShapes Go.ChangeAt Go.RowKit Go.Lib
def newBk : Array Value := #[.int .i64 0, .slice none 0 0, .slice none 0 0, .slice none 0 0, .slice none 0 0, .slice none 0 0, .slice none 0 0, .slice none 0 0, .slice none 0 0, .slice none 0 0, .slice none 0 0, .slice none 0 0]
theorem S0.none {K : Kd} {w : World} {bk : Nat} (h : w.heap[bk]? = some (.cells newBk 52 (0, 0))) (hc : newBk[K.col]? = some (.slice none 0 0)) : S0 K w bk (.slice none 0 0) [] :=
  ⟨⟨⟨newBk, h, hc⟩, World.ownsRow_nil _ _ _ _, by simp, by simp⟩, by simp, fun i j a b ha => by simp at ha, fun j h hh => by simp at hh⟩
theorem B4.new {w0 w : World} {bk : Nat} (h : w.heap[bk]? = some (.cells newBk 52 (0, 0))) (hb : w0.heap.size <= bk) : B4 w0 w bk 0 (.slice none 0 0) (.slice none 0 0) (.slice none 0 0) (.slice none 0 0) [] [] [] [] := by
  refine ⟨⟨newBk, ⟨h, rfl, ?_⟩, rfl⟩, S0.none h rfl, S0.none h rfl, S0.none h rfl, S0.none h rfl, hb, ?_, ?_, ?_, ?_, by simp, by simp, by simp, by simp⟩
  · rintro c (rfl | rfl | rfl | rfl | rfl | rfl | rfl) <;> rfl
  all_goals (intro k hk; simp [Value.ownBlock] at hk)
theorem own_base8 {w : World} {base : Nat} {e : TypeId} {size : Nat} {v : Value} {n : Nat} {xs : List Value} (h : w.ownsRow base e size v n xs) : w.ownsRow 0 e size v n xs := by
  refine ⟨h.1, ?_⟩
  rcases h.2 with h0 | ⟨g, cap, cur, hv, _, hr⟩
  · exact Or.inl h0
  · exact Or.inr ⟨g, cap, cur, hv, Nat.zero_le _, hr⟩
theorem P0.of_out {w0 w : World} {ro : Option Addr} {N rc n : Nat} {vs : List Vn} (h : VOut w0 w ro N rc vs) (hN : N < 17179869184) : P0 kVersion w ⟨.slice ro N rc, .slice none 0 0, n⟩ := by
  obtain ⟨rf, h1, h2⟩ := h.own
  exact ⟨N, vnsC vs, ⟨ro, rc, rf, rfl, h.cap, h1, own_base8 h2⟩, hN⟩
theorem S0.keepN {K : Kd} {S : List Nat} {w w' : World} {bk : Nat} {rv : Value} {hs : List HB} (h : S0 K w bk rv hs) (hf : Fr S w w') (hb : bk ∉ S) (hr : ∀ k, rv.ownBlock = some k -> k ∉ S) (hl : ∀ k ∈ lbs hs, k ∉ S) : S0 K w' bk rv hs := by
  obtain ⟨cs, h1, h2⟩ := h.bl.box
  exact ⟨⟨⟨cs, hf.keep h1 hb, h2⟩, zab h.bl.row hf hr, h.bl.few, h.bl.num⟩, fun j b hj => (h.each j b hj).keep hf (fun k hk => hl k (mem_lbs.2 ⟨b, List.mem_of_getElem? hj, hk⟩)), h.alone, h.fresh⟩
theorem zry (a b : List HB) : lbs (a ++ b) = lbs a ++ lbs b := by simp [lbs]
theorem lbs_snoc {hs : List HB} {x : HB} {k : Nat} (h : k ∈ lbs (hs ++ [x])) : k ∈ lbs hs \/ x.l.ownBlock = some k := by
  obtain ⟨y, hy, hy2⟩ := mem_lbs.1 h
  rcases List.mem_append.1 hy with e | e
  · exact Or.inl (mem_lbs.2 ⟨y, e, hy2⟩)
  · rw [List.mem_singleton] at e; subst e; exact Or.inr hy2
theorem moved_of {n : Nat} {v v' : Value} (h : Moved n v v') {k : Nat} (hk : v'.ownBlock = some k) : v.ownBlock = some k \/ n <= k := by
  rcases h with e | ⟨q, e, hq⟩
  · exact Or.inl (e ▸ hk)
  · rw [e] at hk; cases hk; exact Or.inr hq
theorem zkc {K : Kd} {w : World} {bk : Nat} {rv : Value} {hs : List HB} (h : S0 K w bk rv hs) {k : Nat} (hk : k ∈ lbs hs) : k < w.heap.size := by
  obtain ⟨b, hb, hb2⟩ := mem_lbs.1 hk
  obtain ⟨j, hj⟩ := List.getElem?_of_mem hb
  obtain ⟨cs, hc⟩ := (h.each j b hj).type k hb2
  exact lt_of_block hc
section
variable {S : List Nat} {w0 w w' : World} {bk T : Nat} {rB rI rW rT : Value} {hB hI hW hT : List HB}
def kbs (bk : Nat) (rB rI rW rT : Value) (hB hI hW hT : List HB) : List Nat := bk :: own4 rB rI rW rT hB hI hW hT
theorem mem_kbs {k : Nat} : k ∈ kbs bk rB rI rW rT hB hI hW hT ↔ k = bk \/ ((rB.ownBlock = some k \/ k ∈ lbs hB) \/ (rI.ownBlock = some k \/ k ∈ lbs hI) \/ (rW.ownBlock = some k \/ k ∈ lbs hW) \/ (rT.ownBlock = some k \/ k ∈ lbs hT)) := by
  simp only [kbs, own4, List.mem_cons, List.mem_append, Option.mem_toList]
theorem B4.keepN (h : B4 w0 w bk T rB rI rW rT hB hI hW hT) (hf : Fr S w w') (hS : ∀ j ∈ kbs bk rB rI rW rT hB hI hW hT, j ∉ S) : B4 w0 w' bk T rB rI rW rT hB hI hW hT := by
  obtain ⟨cs, hX, hc⟩ := h.box
  have hb : bk ∉ S := hS bk (mem_kbs.2 (Or.inl rfl))
  exact ⟨⟨cs, hX.keep hf hb, hc⟩, h.sB.keepN hf hb (fun k hk => hS k (mem_kbs.2 (Or.inr (Or.inl (Or.inl hk))))) (fun k hk => hS k (mem_kbs.2 (Or.inr (Or.inl (Or.inr hk))))),
    h.sI.keepN hf hb (fun k hk => hS k (mem_kbs.2 (Or.inr (Or.inr (Or.inl (Or.inl hk)))))) (fun k hk => hS k (mem_kbs.2 (Or.inr (Or.inr (Or.inl (Or.inr hk)))))),
    h.sW.keepN hf hb (fun k hk => hS k (mem_kbs.2 (Or.inr (Or.inr (Or.inr (Or.inl (Or.inl hk))))))) (fun k hk => hS k (mem_kbs.2 (Or.inr (Or.inr (Or.inr (Or.inl (Or.inr hk))))))),
    h.sT.keepN hf hb (fun k hk => hS k (mem_kbs.2 (Or.inr (Or.inr (Or.inr (Or.inr (Or.inl hk))))))) (fun k hk => hS k (mem_kbs.2 (Or.inr (Or.inr (Or.inr (Or.inr (Or.inr hk))))))), h.bn, h.rBn, h.rIn, h.rWn, h.rTn, h.lB, h.lI, h.lW, h.lT⟩
theorem B4.keep (h : B4 w0 w bk T rB rI rW rT hB hI hW hT) (hf : Fr [] w w') : B4 w0 w' bk T rB rI rW rT hB hI hW hT := h.keepN hf (by simp)
theorem B4.lt (h : B4 w0 w bk T rB rI rW rT hB hI hW hT) : ∀ k ∈ kbs bk rB rI rW rT hB hI hW hT, k < w.heap.size := by
  intro k hk
  obtain ⟨cs, hX, hc⟩ := h.box
  rcases mem_kbs.1 hk with rfl | (e | e) | (e | e) | (e | e) | (e | e)
  · exact lt_of_block hX.box
  · exact (h.sB.bl.row.lt k e).2
  · exact zkc h.sB e
  · exact (h.sI.bl.row.lt k e).2
  · exact zkc h.sI e
  · exact (h.sW.bl.row.lt k e).2
  · exact zkc h.sW e
  · exact (h.sT.bl.row.lt k e).2
  · exact zkc h.sT e
theorem ziz (h : B4 w0 w bk T rB rI rW rT hB hI hW hT) (ao : Option Addr) (L cap : Nat) (hp : P0 kInt w ⟨.slice ao L cap, .slice none 0 0, T + 1⟩) (hal : ∀ k, (Value.slice ao L cap).ownBlock = some k -> k ∉ lbs hI) (hT2 : T < 67108862) :
    Calls Tryz.prog 86 #[.pointer (some ⟨bk, 0, none⟩), .slice ao L cap] w fun e w' => e = .returned (.tuple #[]) /\ ∃ rv', B4 w0 w' bk (T + 1) rB rv' rW rT hB (hI ++ [⟨.slice ao L cap, .slice none 0 0, T + 1⟩]) hW hT /\ Fr (bk :: rI.ownBlock.toList) w w' /\ Moved w.heap.size rI rv' := by
  have HC : Hid _ := zfl h ao L cap hp hal hT2
  clear h hp hal
  go_enter Tryz.func86, Tryz.ntmps86
  go_wp2_with fail
  refine Calls.mono HC.out ?_
  rintro e w' ⟨rfl, R⟩
  have HR : Hid _ := R
  clear R HC
  go_wp2_with fail
  go_end0
  exact ⟨rfl, HR.out⟩
theorem zer (h : B4 w0 w bk T rB rI rW rT hB hI hW hT) (ao : Option Addr) (L cap : Nat) (hp : P0 kVersion w ⟨.slice ao L cap, .slice none 0 0, T + 1⟩) (hal : ∀ k, (Value.slice ao L cap).ownBlock = some k -> k ∉ lbs hT) (hT2 : T < 67108862) :
    Calls Tryz.prog 140 #[.pointer (some ⟨bk, 0, none⟩), .slice ao L cap] w fun e w' => e = .returned (.tuple #[]) /\ ∃ rv', B4 w0 w' bk (T + 1) rB rI rW rv' hB hI hW (hT ++ [⟨.slice ao L cap, .slice none 0 0, T + 1⟩]) /\ Fr (bk :: rT.ownBlock.toList) w w' /\ Moved w.heap.size rT rv' := by
  have HC : Hid _ := zdj h ao L cap hp hal hT2
  clear h hp hal
  go_enter Tryz.func140, Tryz.ntmps140
  go_wp2_with fail
  refine Calls.mono HC.out ?_
  rintro e w' ⟨rfl, R⟩
  have HR : Hid _ := R
  clear R HC
  go_wp2_with fail
  go_end0
  exact ⟨rfl, HR.out⟩
end
abbrev Dt := ByteArray × Value
def dtC (ds : List Dt) : List Value := ds.flatMap fun d => [.string d.1, d.2]
theorem zqb (ds : List Dt) (i : Nat) (d : Dt) (h : ds[i]? = some d) : (dtC ds)[i * 2]? = some (.string d.1) /\ (dtC ds)[i * 2 + 1]? = some d.2 := by
  induction ds generalizing i with
  | nil => simp at h
  | cons a r ih =>
    have e : dtC (a :: r) = .string a.1 :: a.2 :: dtC r := rfl
    cases i with
    | zero => simp at h; subst h; rw [e]; exact ⟨rfl, rfl⟩
    | succ i =>
      rw [e, show (i + 1) * 2 = i * 2 + 1 + 1 by omega]
      simpa using ih i (by simpa using h)
def held : Nat -> List Dt -> List HB
  | _, [] => []
  | T, d :: r => ⟨d.2, .slice none 0 0, T + 1⟩ :: held (T + 1) r
theorem zlu (T : Nat) (ds : List Dt) (d : Dt) : held T (ds ++ [d]) = held T ds ++ [⟨d.2, .slice none 0 0, T + ds.length + 1⟩] := by
  induction ds generalizing T with
  | nil => simp [held]
  | cons a r ih =>
    simp only [List.cons_append, held, ih, List.length_cons]
    rw [show T + 1 + r.length + 1 = T + (r.length + 1) + 1 by omega]
theorem mem_held {T : Nat} {ds : List Dt} {k : Nat} (h : k ∈ lbs (held T ds)) : ∃ (i : Nat) (d : Dt), ds[i]? = some d /\ d.2.ownBlock = some k := by
  induction ds generalizing T with
  | nil => simp [held, lbs] at h
  | cons a r ih =>
    obtain ⟨b, hb, hk⟩ := mem_lbs.1 h
    simp only [held, List.mem_cons] at hb
    rcases hb with rfl | hb
    · exact ⟨0, a, rfl, hk⟩
    · obtain ⟨i, d, hd, hk⟩ := ih (T := T + 1) (mem_lbs.2 ⟨b, hb, hk⟩)
      exact ⟨i + 1, d, by simpa using hd, hk⟩
structure Dts (w : World) (ao : Option Addr) (L cap : Nat) (ds : List Dt) : Prop where
  row : w.ownsRow 0 147 2 (.slice ao L cap) L (dtC ds)
  len : L = ds.length
  few : L < 2097152
  each : ∀ (i : Nat) (d : Dt), ds[i]? = some d -> ∃ n vs, Cut w 136 3 d.2 n vs /\ n < 17179869184
  apart : ∀ (i j : Nat) (a b : Dt), ds[i]? = some a -> ds[j]? = some b -> i ≠ j -> ∀ k, a.2.ownBlock = some k -> b.2.ownBlock ≠ some k
theorem Dts.keep {S : List Nat} {w w' : World} {ao : Option Addr} {L cap : Nat} {ds : List Dt} (h : Dts w ao L cap ds) (hf : Fr S w w') (h1 : ∀ k, (Value.slice ao L cap).ownBlock = some k -> k ∉ S) (h2 : ∀ (i : Nat) (d : Dt), ds[i]? = some d -> ∀ k, d.2.ownBlock = some k -> k ∉ S) : Dts w' ao L cap ds :=
  ⟨zab h.row hf h1, h.len, h.few, fun i d hd => by obtain ⟨n, vs, q1, q2⟩ := h.each i d hd; exact ⟨n, vs, q1.keep hf (h2 i d hd), q2⟩, h.apart⟩
theorem zkd (ds : List Dt) (i : Nat) (d : Dt) (h : ds[i]? = some d) : ds.take (i + 1) = ds.take i ++ [d] := by rw [List.take_add_one, h]; rfl
theorem zht {w0 w : World} {bk T : Nat} {rB rI rW rT : Value} {hB hI hW hT : List HB} (h : B4 w0 w bk T rB rI rW rT hB hI hW hT) (ao : Option Addr) (L cap : Nat) (ds : List Dt) (hd : Dts w ao L cap ds) (hw : ∀ (i : Nat) (d : Dt), ds[i]? = some d -> ∀ k, d.2.ownBlock = some k -> k ∉ lbs hT) (ht : ∀ k, (Value.slice ao L cap).ownBlock = some k -> k ∉ lbs hW) (hTL : T + L < 67108000) :
    Calls Tryz.prog 87 #[.pointer (some ⟨bk, 0, none⟩), .slice ao L cap] w fun e w' => e = .returned (.tuple #[]) /\ ∃ rT' rW', B4 w0 w' bk (T + L + 1) rB rI rW' rT' hB hI (hW ++ [⟨.slice ao L cap, .slice none 0 0, T + L + 1⟩]) (hT ++ held T ds) /\ Fr (bk :: (rT.ownBlock.toList ++ rW.ownBlock.toList)) w w' /\ Moved w.heap.size rT rT' /\ Moved w.heap.size rW rW' := by
  have HD : Hid (Dts w ao L cap ds) := hd
  have hL := hd.few
  have HL : Hid (L = ds.length) := hd.len
  have HB0 : Hid (B4 w0 w bk T rB rI rW rT hB hI hW hT) := h
  have hrow := hd.row
  clear h hd
  go_enter Tryz.func87, Tryz.ntmps87
  go_wp2_with fail
  go_loopw [4] (fun ii wr => ∃ (i : Nat) (v : Value), ii = .int .i64 i /\ i <= L /\ Hid (B4 w0 wr bk (T + i) rB rI rW v hB hI hW (hT ++ held T (ds.take i))) /\ Hid (Fr (bk :: rT.ownBlock.toList) w wr /\ Moved w.heap.size rT v) /\ Hid (Dts wr ao L cap ds)) (fun ii _ => L - (RowKit.intOf ii).toNat)
  case atStart => exact ⟨0, rT, rfl, Nat.zero_le _, by simpa [held] using HB0, ⟨Fr.refl _ _, Moved.refl _ _⟩, HD⟩
  case round =>
    obtain ⟨i, v, rfl, hiL, HB, HF, HDr⟩ := hrel
    by_cases hi : i < L
    · obtain ⟨d, hdi⟩ : ∃ d, ds[i]? = some d := ⟨_, List.getElem?_eq_getElem (by rw [<- HL.out]; exact hi)⟩
      have HDI : Hid (ds[i]? = some d) := hdi
      obtain ⟨n, vs, q1, q2⟩ := HDr.out.each i d hdi
      obtain ⟨so, sc, sf, hsv, hnc, hcf, q3⟩ := id q1
      obtain ⟨g, gc, hg, hgc⟩ := zba HDr.out.row (by omega)
      cases hg
      obtain ⟨e1, e2⟩ := zqb ds i d hdi
      have c1 : wr.cell? ⟨g, i * 2 + 1, none⟩ = some d.2 := by rw [HDr.out.row.cellAt (i * 2 + 1) (by omega), e2]
      obtain ⟨dn, dv⟩ := d
      simp only at c1 hsv q1
      subst hsv
      have hal : ∀ k, (Value.slice so n sc).ownBlock = some k -> k ∉ lbs (hT ++ held T (ds.take i)) := by
        intro k hk hm
        rw [zry] at hm
        rcases List.mem_append.1 hm with hm | hm
        · exact hw i _ HDI.out k hk hm
        · obtain ⟨j, b, hb, hbk⟩ := mem_held hm
          have hji : j < i := by have := (List.getElem?_eq_some_iff.1 hb).1; rw [List.length_take] at this; omega
          rw [List.getElem?_take, if_pos hji] at hb
          exact HDr.out.apart i j _ b HDI.out hb (by omega) k hk hbk
      have HC : Hid _ := zer HB.out so n sc ⟨n, vs, q1, q2⟩ hal (by omega)
      have HTK := zkd ds i _ hdi
      have HHS : Hid (hT ++ held T (ds.take (i + 1)) = (hT ++ held T (ds.take i)) ++ [⟨.slice so n sc, .slice none 0 0, T + i + 1⟩]) := by
        show _ = _
        rw [HTK, zlu, List.length_take, show min i ds.length = i by have := HL.out; omega, List.append_assoc]
      have HNB : Hid (∀ k cs t, wr.heap[k]? = some (.cells cs t (0, 0)) -> t ≠ 52 -> t ≠ 134 -> k ∉ bk :: v.ownBlock.toList) := by
        intro k cs t hk h1 h2 hm
        rcases List.mem_cons.1 hm with rfl | hm
        · obtain ⟨cs', hX, _⟩ := HB.out.box
          rw [hX.box] at hk
          simp only [Option.some.injEq, Obj.cells.injEq] at hk
          exact h1 hk.2.1.symm
        · obtain ⟨cs', hc⟩ := zaf HB.out.sT.bl.row k (by simpa using hm)
          rw [hc] at hk
          simp only [Option.some.injEq, Obj.cells.injEq] at hk
          exact h2 hk.2.1.symm
      clear hdi hal e1 e2 HTK q1 q3 hnc hcf
      go_wp2_with fail
      refine Calls.mono HC.out ?_
      rintro e w2 ⟨rfl, v2, R1, R2, R3⟩
      have HB2 : Hid (B4 w0 w2 bk (T + (i + 1)) rB rI rW v2 hB hI hW (hT ++ held T (ds.take (i + 1)))) := by rw [HHS.out]; exact R1
      have HF2 : Hid (Fr (bk :: rT.ownBlock.toList) w w2 /\ Moved w.heap.size rT v2) := by
        obtain ⟨f1, f2⟩ := HF.out
        refine ⟨f1.trans R2 (fun x hx _ => hx) ?_, f2.trans R3 f1.size⟩
        intro x hx hl
        rcases List.mem_cons.1 hx with rfl | hx
        · simp
        · rcases f2 with f2 | ⟨y, y1, y2⟩
          · rw [f2] at hx; exact List.mem_cons_of_mem _ hx
          · rw [y1] at hx; simp at hx; omega
      have HD2 : Hid (Dts w2 (some ⟨g, 0, none⟩) L cap ds) := HDr.out.keep R2 (fun k hk => by obtain ⟨cs, hc⟩ := zaf HDr.out.row k hk; exact HNB.out k cs _ hc (by decide) (by decide)) (fun j b hb k hk => by obtain ⟨m, us, u1, _⟩ := HDr.out.each j b hb; obtain ⟨cs, hc⟩ := u1.type k hk; exact HNB.out k cs _ hc (by decide) (by decide))
      clear R1 R2 R3 HC HB HF HDr HNB HHS
      go_wp2_with fail
      go_roundw
      case rel => exact ⟨i + 1, v2, by simp, by omega, HB2, HF2, HD2⟩
      case measure => simp [RowKit.intOf]; omega
    · have hiL' : i = L := by omega
      subst hiL'
      have HB1 : Hid (B4 w0 wr bk (T + i) rB rI rW v hB hI hW (hT ++ held T ds)) := by
        have := HB.out
        rw [List.take_of_length_le (by have := HL.out; omega)] at this
        exact this
      have HC : Hid _ := zeq HB1.out ao i cap ⟨i, dtC ds, Cut.of HDr.out.row, by omega⟩ ht (by omega)
      clear HB HDr hrow
      go_wp2_with fail
      refine Calls.mono HC.out ?_
      rintro e w2 ⟨rfl, v2, R1, R2, R3⟩
      have HE : Hid (_ /\ _ /\ _ /\ _) := ⟨R1, (by
        obtain ⟨f1, f2⟩ := HF.out
        refine f1.trans R2 ?_ ?_
        · intro x hx _
          rcases List.mem_cons.1 hx with rfl | hx
          · simp
          · exact List.mem_cons_of_mem _ (List.mem_append_left _ hx)
        · intro x hx _
          rcases List.mem_cons.1 hx with rfl | hx
          · simp
          · exact List.mem_cons_of_mem _ (List.mem_append_right _ hx) : Fr (bk :: (rT.ownBlock.toList ++ rW.ownBlock.toList)) w w2), HF.out.2, (Moved.refl w.heap.size rW).trans R3 HF.out.1.size⟩
      clear R1 R2 R3 HC HF
      go_wp2_with fail
      go_end0
      exact ⟨rfl, v, v2, HE.out⟩
end Go.Proofs.YtembflnhhfliaaaGreatDoor.Bq
namespace Go.Proofs.YtembflnhhfliaaaGreatDoor
open BigFrame Go.ChangeShapes Go.WideShapes Go.ChangeAt Go.RowKit Go.Lib Go.Maps
structure TwS (w0 w : World) (bs : List Int) (hs : List Hd) (bb bh : Nat) (ks : List Nat) : Prop where
  nb : w0.heap.size <= bb
  nh : w0.heap.size <= bh
  rb : w.heap[bb]? = some (.cells (zbi (bs ++ [7777])).toArray 3 (0, 0))
  rh : w.heap[bh]? = some (.cells (hdsC (twTs hs ks ++ [spT])).toArray 147 (0, 0))
  tw : Twd w0 w hs ks
theorem TwS.keep {w0 w w' : World} {bs : List Int} {hs : List Hd} {bb bh : Nat} {ks : List Nat} (h : TwS w0 w bs hs bb bh ks) (hf : Fr [] w w') : TwS w0 w' bs hs bb bh ks := ⟨h.nb, h.nh, hf.keep h.rb (by simp), hf.keep h.rh (by simp), h.tw.keep hf (by simp)⟩
theorem zai {W : World} {b : Nat} {v0 v1 v2 : Value} {ty : TypeId} (h : W.heap[b]? = some (.cells #[v0, v1, v2] ty (0, 0))) : W.cell? ⟨b, 0, none⟩ = some v0 /\ W.cell? ⟨b, 1, none⟩ = some v1 /\ W.cell? ⟨b, 2, none⟩ = some v2 := by
  refine ⟨?_, ?_, ?_⟩ <;> (rw [cell_of_row _ _ _ _ _ _ h]; rfl)
theorem zke {w0 w : World} (m : Int) (bo ho : Option Addr) (Lb cb Lh ch : Nat) (bs : List Int) (hs : List Hd) (bb bh : Nat) (ks : List Nat) (hI : IRs w bo bs) (hLb : Lb = bs.length) (hH : HRs w ho hs) (hLh : Lh = hs.length) (hL : Lh < 2^21) (hfew : Few hs) (hT : TwS w0 w bs hs bb bh ks) :
    Calls Tryz.prog 17 #[.agg #[.int .i64 m, .slice (some ⟨bb, 0, none⟩) Lb (Lb + 1), .slice (some ⟨bh, 0, none⟩) Lh (Lh + 1)], .agg #[.int .i64 m, .slice bo Lb cb, .slice ho Lh ch]] w fun e w' => e = .returned (.bool true) /\ Fr [] w w' := by
  have HE : Hid (∀ W, Fr [] w W -> Calls Tryz.prog 84 #[.slice (some ⟨bb, 0, none⟩) Lb (Lb + 1), .slice bo Lb cb] W fun e w' => e = .returned (.bool true) /\ Fr [] W w') := fun W hW => zru bb bo Lb cb bs W (hI.keep hW) hLb (by have := hI.few; omega) (hT.keep hW).rb
  have HH : Hid (∀ W, Fr [] w W -> Calls Tryz.prog 85 #[.slice (some ⟨bh, 0, none⟩) Lh (Lh + 1), .slice ho Lh ch] W fun e w' => e = .returned (.bool true) /\ Fr [] W w') := fun W hW => zrw bh ks w0 ho Lh ch hs W (hH.keep hW) hLh hL hfew (hT.keep hW).tw (hT.keep hW).rh
  clear hI hH hT hLb hLh hfew
  obtain ⟨W0, HW0⟩ : ∃ W0, Hid (((w.alloc (.cells #[.int .i64 m, .slice (some ⟨bb, 0, none⟩) Lb (Lb + 1), .slice (some ⟨bh, 0, none⟩) Lh (Lh + 1)] 57)).alloc (.cells #[.int .i64 m, .slice bo Lb cb, .slice ho Lh ch] 57)) = W0) := ⟨_, rfl⟩
  have h1 : W0.heap[w.heap.size]? = some (.cells #[.int .i64 m, .slice (some ⟨bb, 0, none⟩) Lb (Lb + 1), .slice (some ⟨bh, 0, none⟩) Lh (Lh + 1)] 57 (0, 0)) := by
    rw [<- HW0.out]; exact (Fr.alloc [] _ _).keep (heap_alloc_new w _) (by simp)
  have h2 : W0.heap[w.heap.size + 1]? = some (.cells #[.int .i64 m, .slice bo Lb cb, .slice ho Lh ch] 57 (0, 0)) := by
    rw [<- HW0.out]
    have := heap_alloc_new (w.alloc (.cells #[.int .i64 m, .slice (some ⟨bb, 0, none⟩) Lb (Lb + 1), .slice (some ⟨bh, 0, none⟩) Lh (Lh + 1)] 57)) (.cells #[.int .i64 m, .slice bo Lb cb, .slice ho Lh ch] 57)
    simpa using this
  have HC : Hid (∀ W, Fr [] W0 W -> W.heap[w.heap.size]? = some (.cells #[.int .i64 m, .slice (some ⟨bb, 0, none⟩) Lb (Lb + 1), .slice (some ⟨bh, 0, none⟩) Lh (Lh + 1)] 57 (0, 0)) /\ W.heap[w.heap.size + 1]? = some (.cells #[.int .i64 m, .slice bo Lb cb, .slice ho Lh ch] 57 (0, 0))) := fun W hW => ⟨hW.keep h1 (by simp), hW.keep h2 (by simp)⟩
  have HF0 : Hid (Fr [] w W0) := by rw [<- HW0.out]; exact (Fr.alloc [] w _).then (Fr.alloc [] _ _)
  clear h1 h2
  go_enter Tryz.func17, Tryz.ntmps17
  go_upto_region 1 with fail
  rw [HW0.out]
  obtain ⟨q1, q2⟩ := HC.out W0 (Fr.refl _ _)
  obtain ⟨a0, a1, a2⟩ := zai q1
  obtain ⟨b0, b1, b2⟩ := zai q2
  clear q1 q2 HW0
  go_wp2_with fail
  refine (HE.out _ HF0.out).mono ?_
  rintro e' w1 ⟨rfl, hf1⟩
  have HF1 : Hid (Fr [] W0 w1) := hf1
  obtain ⟨q1, q2⟩ := HC.out w1 hf1
  clear a0 a1 a2 b0 b1 b2 hf1
  obtain ⟨a0, a1, a2⟩ := zai q1
  obtain ⟨b0, b1, b2⟩ := zai q2
  clear q1 q2
  go_wp2_with fail
  refine (HH.out _ (HF0.out.then HF1.out)).mono ?_
  rintro e' w2 ⟨rfl, hf2⟩
  have HF2 : Hid (Fr [] W0 w2) := HF1.out.then hf2
  clear a0 a1 a2 b0 b1 b2 hf2
  go_wp2
  go_ret
  exact ⟨by simp, HF0.out.then HF2.out⟩
theorem zkf {w : World} (m : Int) (bo ho : Option Addr) (Lb cb Lh ch : Nat) (bs : List Int) (hs : List Hd) (hI : IRs w bo bs) (hLb : Lb = bs.length) (hH : HRs w ho hs) (hLh : Lh = hs.length) (hL : Lh < 2^21) (hfew : Few hs) :
    Calls Tryz.prog 14 #[.agg #[.int .i64 m, .slice bo Lb cb, .slice ho Lh ch]] w fun e w' => ∃ bb bh ks, e = .returned (.agg #[.int .i64 m, .slice (some ⟨bb, 0, none⟩) Lb (Lb + 1), .slice (some ⟨bh, 0, none⟩) Lh (Lh + 1)]) /\ TwS w w' bs hs bb bh ks /\ Fr [] w w' := by
  have hE : ∀ W, Fr [] w W -> Calls Tryz.prog 74 #[.slice bo Lb cb] W fun e w' => ∃ b, e = .returned (.slice (some ⟨b, 0, none⟩) Lb (Lb + 1)) /\ W.heap.size <= b /\ w'.heap[b]? = some (.cells (zbi (bs ++ [7777])).toArray 3 (0, 0)) /\ Fr [] W w' := fun W hW => zrt bo Lb cb bs W (hI.keep hW) hLb (by have := hI.few; omega)
  have hHh : ∀ W, Fr [] w W -> Calls Tryz.prog 75 #[.slice ho Lh ch] W fun e w' => ∃ b ks, e = .returned (.slice (some ⟨b, 0, none⟩) Lh (Lh + 1)) /\ W.heap.size <= b /\ w'.heap[b]? = some (.cells (hdsC (twTs hs ks ++ [spT])).toArray 147 (0, 0)) /\ Twd W w' hs ks /\ Fr [] W w' := fun W hW => zrv ho Lh ch hs W (hH.keep hW) hLh hL hfew
  clear hI hH hLb hLh hfew
  obtain ⟨w0, HW0⟩ : ∃ w0, Hid ((w.alloc (.cells #[.int .i64 m, .slice bo Lb cb, .slice ho Lh ch] 57)).alloc (.cells #[.int .i64 0, .slice none 0 0, .slice none 0 0] 57) = w0) := ⟨_, rfl⟩
  have hF0 : Fr [] w w0 := by rw [<- HW0.out]; exact (Fr.alloc [] w _).then (Fr.alloc [] _ _)
  have hb0 : w0.heap[w.heap.size]? = some (.cells #[.int .i64 m, .slice bo Lb cb, .slice ho Lh ch] 57 (0, 0)) := by rw [<- HW0.out]; exact (Fr.alloc [] _ _).keep (heap_alloc_new w _) (by simp)
  have hb1 : w0.heap[w.heap.size + 1]? = some (.cells #[.int .i64 0, .slice none 0 0, .slice none 0 0] 57 (0, 0)) := by
    rw [<- HW0.out]
    have := heap_alloc_new (w.alloc (.cells #[.int .i64 m, .slice bo Lb cb, .slice ho Lh ch] 57)) (.cells #[.int .i64 0, .slice none 0 0, .slice none 0 0] 57)
    simpa using this
  have hs0 : w0.heap.size = w.heap.size + 2 := by rw [<- HW0.out]; simp
  have hcell : ∀ W, Fr [] w0 W -> W.cell? ⟨w.heap.size, 0, none⟩ = some (.int .i64 m) /\ W.cell? ⟨w.heap.size, 1, none⟩ = some (.slice bo Lb cb) /\ W.cell? ⟨w.heap.size, 2, none⟩ = some (.slice ho Lh ch) /\ W.cell? ⟨w.heap.size + 1, 0, none⟩ = some (.int .i64 0) /\ W.cell? ⟨w.heap.size + 1, 1, none⟩ = some (.slice none 0 0) /\ W.cell? ⟨w.heap.size + 1, 2, none⟩ = some (.slice none 0 0) /\ W.frozen? ⟨w.heap.size + 1, 0, none⟩ = false /\ W.frozen? ⟨w.heap.size + 1, 1, none⟩ = false /\ W.frozen? ⟨w.heap.size + 1, 2, none⟩ = false := by
    intro W hf
    have q1 := hf.keep hb0 (by simp)
    have q2 := hf.keep hb1 (by simp)
    obtain ⟨x0, x1, x2⟩ := zai q1
    obtain ⟨y0, y1, y2⟩ := zai q2
    exact ⟨x0, x1, x2, y0, y1, y2, by simp [World.frozen?, q2], by simp [World.frozen?, q2], by simp [World.frozen?, q2]⟩
  have HE : Hid (∀ W, Fr [] w0 W -> Calls Tryz.prog 74 #[.slice bo Lb cb] W fun e' w' => ∃ bb, e' = .returned (.slice (some ⟨bb, 0, none⟩) Lb (Lb + 1)) /\ Hid (W.heap.size <= bb /\ w'.heap[bb]? = some (.cells (zbi (bs ++ [7777])).toArray 3 (0, 0))) /\ Fr [] w0 w' /\ w'.cell? ⟨w.heap.size, 0, none⟩ = some (.int .i64 m) /\ w'.cell? ⟨w.heap.size, 1, none⟩ = some (.slice bo Lb cb) /\ w'.cell? ⟨w.heap.size, 2, none⟩ = some (.slice ho Lh ch) /\ w'.cell? ⟨w.heap.size + 1, 0, none⟩ = some (.int .i64 0) /\ w'.cell? ⟨w.heap.size + 1, 1, none⟩ = some (.slice none 0 0) /\ w'.cell? ⟨w.heap.size + 1, 2, none⟩ = some (.slice none 0 0) /\ w'.frozen? ⟨w.heap.size + 1, 0, none⟩ = false /\ w'.frozen? ⟨w.heap.size + 1, 1, none⟩ = false /\ w'.frozen? ⟨w.heap.size + 1, 2, none⟩ = false) := fun W hW => (hE W (hF0.then hW)).mono (by
    rintro e' w' ⟨b', h1, h2, h3, h4⟩
    exact ⟨b', h1, ⟨h2, h3⟩, hW.then h4, hcell _ (hW.then h4)⟩)
  have HH : Hid (∀ W, Fr [] w0 W -> Calls Tryz.prog 75 #[.slice ho Lh ch] W fun e' w' => ∃ bh ks, e' = .returned (.slice (some ⟨bh, 0, none⟩) Lh (Lh + 1)) /\ Hid (W.heap.size <= bh /\ w'.heap[bh]? = some (.cells (hdsC (twTs hs ks ++ [spT])).toArray 147 (0, 0)) /\ Twd W w' hs ks /\ Fr [] W w') /\ w'.cell? ⟨w.heap.size, 0, none⟩ = some (.int .i64 m) /\ w'.cell? ⟨w.heap.size, 1, none⟩ = some (.slice bo Lb cb) /\ w'.cell? ⟨w.heap.size, 2, none⟩ = some (.slice ho Lh ch) /\ w'.cell? ⟨w.heap.size + 1, 0, none⟩ = some (.int .i64 0) /\ w'.cell? ⟨w.heap.size + 1, 1, none⟩ = some (.slice none 0 0) /\ w'.cell? ⟨w.heap.size + 1, 2, none⟩ = some (.slice none 0 0) /\ w'.frozen? ⟨w.heap.size + 1, 0, none⟩ = false /\ w'.frozen? ⟨w.heap.size + 1, 1, none⟩ = false /\ w'.frozen? ⟨w.heap.size + 1, 2, none⟩ = false) := fun W hW => (hHh W (hF0.then hW)).mono (by
    rintro e' w' ⟨b', ks, h1, h2, h3, h4, h5⟩
    exact ⟨b', ks, h1, ⟨h2, h3, h4, h5⟩, hcell _ (hW.then h5)⟩)
  obtain ⟨k0, k1, k2, k3, k4, k5, k6, k7, k8⟩ := hcell _ (Fr.drew [] w0)
  have HD : Hid (Fr [] w0 w0.drew) := Fr.drew [] w0
  have HFw : Hid (Fr [] w w0 /\ w0.heap.size = w.heap.size + 2) := ⟨hF0, hs0⟩
  clear hcell hb0 hb1 hE hHh hF0 hs0
  go_enter Tryz.func14, Tryz.ntmps14
  go_upto_region 1 with fail
  rw [HW0.out]
  clear HW0
  go_loud (go_region_held3 (fun W => W.cell? ⟨w.heap.size, 0, none⟩ = some (.int .i64 m) /\ W.cell? ⟨w.heap.size, 1, none⟩ = some (.slice bo Lb cb) /\ W.cell? ⟨w.heap.size, 2, none⟩ = some (.slice ho Lh ch)) (go_keep)
    (first
    | (go_at_call 74; with_reducible refine (HE.out _ HD.out).mono ?_; rintro e1 w1 ⟨bb, rfl, HB1, hF1, l0, l1, l2, l3, l4, l5, l6, l7, l8⟩)
    | (go_at_call 75; with_reducible refine (HH.out _ hF1).mono ?_; rintro e2 w2 ⟨bh, ks, rfl, HB2, m0, m1, m2, m3, m4, m5, m6, m7, m8⟩)))
  have hFs : Fr [w.heap.size + 1] w2 (((w2.setCell ⟨w.heap.size + 1, 0, none⟩ (.int .i64 m)).setCell ⟨w.heap.size + 1, 1, none⟩ (.slice (some ⟨bb, 0, none⟩) Lb (Lb + 1))).setCell ⟨w.heap.size + 1, 2, none⟩ (.slice (some ⟨bh, 0, none⟩) Lh (Lh + 1))) := ((Fr.set w2 ⟨w.heap.size + 1, 0, none⟩ _ (by simp)).then (Fr.set _ ⟨w.heap.size + 1, 1, none⟩ _ (by simp))).then (Fr.set _ ⟨w.heap.size + 1, 2, none⟩ _ (by simp))
  have HR : Hid (TwS w (((w2.setCell ⟨w.heap.size + 1, 0, none⟩ (.int .i64 m)).setCell ⟨w.heap.size + 1, 1, none⟩ (.slice (some ⟨bb, 0, none⟩) Lb (Lb + 1))).setCell ⟨w.heap.size + 1, 2, none⟩ (.slice (some ⟨bh, 0, none⟩) Lh (Lh + 1))) bs hs bb bh ks /\ Fr [] w (((w2.setCell ⟨w.heap.size + 1, 0, none⟩ (.int .i64 m)).setCell ⟨w.heap.size + 1, 1, none⟩ (.slice (some ⟨bb, 0, none⟩) Lb (Lb + 1))).setCell ⟨w.heap.size + 1, 2, none⟩ (.slice (some ⟨bh, 0, none⟩) Lh (Lh + 1)))) := by
    obtain ⟨g1, g2⟩ := HB1.out
    obtain ⟨g3, g4, g5, g6⟩ := HB2.out
    obtain ⟨g7, g8⟩ := HFw.out
    have g9 : w0.drew.heap.size = w0.heap.size := rfl
    have g10 : bb < w1.heap.size := lt_of_block g2
    have g11 : w0.heap.size <= w1.heap.size := hF1.size
    have g12 := g6.keep g2 (by simp)
    refine ⟨⟨by omega, by omega, hFs.keep g12 (by simp; omega), hFs.keep g4 (by simp; omega), ?_⟩, (g7.then (hF1.then g6)).on hFs (by intro x hx; simp at hx; omega)⟩
    refine ⟨g5.len, fun k hk => by have := g5.new k hk; omega, fun i' t' k' ht' hk' => ?_, g5.apart⟩
    have := g5.new k' (List.mem_of_getElem? hk')
    exact hFs.keep (g5.row i' t' k' ht' hk') (by simp; omega)
  clear hFs HB1 HB2 hF1 HE HH HD HFw
  go_wp2
  refine bodyPost_ret (v := (.agg #[.int .i64 m, .slice (some ⟨bb, 0, none⟩) Lb (Lb + 1), .slice (some ⟨bh, 0, none⟩) Lh (Lh + 1)])) (by rw [Bq.res_c1 rfl]; go_simp) rfl ⟨bb, bh, ks, rfl, HR.out.1, HR.out.2⟩
def dsOf (hs : List Hd) : List Bq.Dt := hs.map fun h => (h.key, .slice h.vo h.L h.cap)
theorem zui (hs : List Hd) : Bq.dtC (dsOf hs) = hdsC hs := by unfold dsOf Bq.dtC hdsC; rw [List.flatMap_map]; rfl
theorem zck {hs : List Hd} {i : Nat} {d : Bq.Dt} (h : (dsOf hs)[i]? = some d) : ∃ x, hs[i]? = some x /\ d = (x.key, .slice x.vo x.L x.cap) := by
  unfold dsOf at h
  rw [List.getElem?_map] at h
  cases hx : hs[i]? with
  | none => rw [hx] at h; simp at h
  | some x => rw [hx] at h; simp at h; exact ⟨x, rfl, h.symm⟩
theorem zja {ao : Option Addr} {L c k : Nat} (h : (Value.slice ao L c).ownBlock = some k) : ∃ p, ao = some p /\ p.block = k := by
  cases ao with
  | none => simp [Value.ownBlock] at h
  | some p => simp [Value.ownBlock] at h; exact ⟨p, rfl, h⟩
section
variable {wS w0 w w' : World} {s r : Option Addr} {n L b : Nat} {ts : List Hd} {ks : List Nat}
theorem zrz {k : Nat} {vs : List Vn} {M : Nat} (h : w.heap[k]? = some (.cells (vnsC (vs ++ [spV])).toArray 136 (0, 0))) (hM : M = vs.length) (hm : M < 2097152) : w.ownsRow 0 136 3 (.slice (some ⟨k, 0, none⟩) M (M + 1)) M (vnsC vs) := by
  refine ⟨by rw [zce, hM], .inr ⟨k, M + 1, (vnsC (vs ++ [spV])).toArray, rfl, Nat.zero_le _, h, by omega, by simp only [maxLen]; omega, by simp [zce]; omega, ?_⟩⟩
  simp only [zcs]
  rw [List.take_append_of_le_length (by rw [zce]; omega), List.take_of_length_le (by rw [zce]; omega)]
theorem zuj (hb : w.heap[b]? = some (.cells (hdsC (twTs ts ks ++ [spT])).toArray 147 (0, 0))) (hT : Twd w0 w ts ks) (hL : L = ts.length) (hm : L < 2097152) : w.ownsRow 0 147 2 (.slice (some ⟨b, 0, none⟩) L (L + 1)) L (hdsC (twTs ts ks)) := by
  have hl := zbd ts ks hT.len
  refine ⟨by rw [zdq, hl, hL], .inr ⟨b, L + 1, (hdsC (twTs ts ks ++ [spT])).toArray, rfl, Nat.zero_le _, hb, by omega, by simp only [maxLen]; omega, by simp [zdq, hl]; omega, ?_⟩⟩
  simp only [zfk]
  rw [List.take_append_of_le_length (by rw [zdq, hl]; omega), List.take_of_length_le (by rw [zdq, hl]; omega)]
theorem zuk {ao : Option Addr} (h : HRs w' ao ts) (hT : Twd w0 w ts ks) (hb : w.heap[b]? = some (.cells (hdsC (twTs ts ks ++ [spT])).toArray 147 (0, 0))) : HRs w (some ⟨b, 0, none⟩) (twTs ts ks) := by
  have hl := zbd ts ks hT.len
  refine ⟨fun h0 => ⟨b, 0, rfl, lt_of_block hb, fun i hi => ?_⟩, by rw [hl]; exact h.few, fun x hx => ?_⟩
  · obtain ⟨e1, e2⟩ := zgo (twTs ts ks ++ [spT]) i (by simp; omega)
    have e3 : (twTs ts ks ++ [spT]).getD i Hd.zero = (twTs ts ks).getD i Hd.zero := by simp [List.getD, List.getElem?_append_left hi]
    rw [e3] at e1 e2
    rw [cell_of_row _ _ _ _ _ _ hb, cell_of_row _ _ _ _ _ _ hb, Nat.zero_add]
    exact ⟨by simpa using e1, by simpa using e2⟩
  · obtain ⟨i, hi⟩ := List.getElem?_of_mem hx
    obtain ⟨t, k, ht, hk, rfl⟩ := zdl hi
    have he := h.each t (List.mem_of_getElem? ht)
    refine ⟨he.k, he.len, by simp [twT], ?_⟩
    have hr := hT.row i t k ht hk
    refine VRs.of_cells (fun _ => lt_of_block hr) (fun j u hj => ?_) he.rs.few he.rs.each
    rw [Nat.zero_add, cell_of_row _ _ _ _ _ _ hr]
    have hj : (vnsC t.vs)[j]? = some u := hj
    have hj' : j < (vnsC t.vs).length := (List.getElem?_eq_some_iff.1 hj).1
    rw [zcs]
    simpa [List.getElem?_append_left hj'] using hj
theorem zwh (hT : Twd w0 w ts ks) : (twTs ts ks).map Hd.kv = ts.map Hd.kv := by
  apply List.ext_getElem?
  intro i
  rw [List.getElem?_map, List.getElem?_map]
  by_cases hi : i < ts.length
  · have h1 : i < (twTs ts ks).length := by rw [zbd ts ks hT.len]; exact hi
    obtain ⟨u, hu⟩ : ∃ u, (twTs ts ks)[i]? = some u := ⟨_, List.getElem?_eq_getElem h1⟩
    obtain ⟨t, k, ht, hk, rfl⟩ := zdl hu
    rw [hu, ht]
    rfl
  · rw [List.getElem?_eq_none (by rw [zbd ts ks hT.len]; omega), List.getElem?_eq_none (by omega)]
theorem zul (hb : w.heap[b]? = some (.cells (hdsC (twTs ts ks ++ [spT])).toArray 147 (0, 0))) (hT : Twd w0 w ts ks) (hL : L = ts.length) (hm : L < 2097152) (hF : Few ts) (he : ∀ t ∈ ts, t.L = t.vs.length) : Bq.Dts w (some ⟨b, 0, none⟩) L (L + 1) (dsOf (twTs ts ks)) := by
  refine ⟨by rw [zui]; exact zuj hb hT hL (by omega), by simp [dsOf, zbd ts ks hT.len, hL], hm, fun i d hd => ?_, fun i j a c ha hc hij k hka hkc => ?_⟩
  · obtain ⟨x, hx, rfl⟩ := zck hd
    obtain ⟨t, k, ht, hk, rfl⟩ := zdl hx
    have hf := hF t (List.mem_of_getElem? ht)
    exact ⟨t.L, vnsC t.vs, Bq.Cut.of (zrz (hT.row i t k ht hk) (he t (List.mem_of_getElem? ht)) (by show t.L < _; omega)), by omega⟩
  · obtain ⟨x, hx, rfl⟩ := zck ha
    obtain ⟨y, hy, rfl⟩ := zck hc
    obtain ⟨t, p, ht, hp, rfl⟩ := zdl hx
    obtain ⟨u, q, hu, hq, rfl⟩ := zdl hy
    simp [twT, Value.ownBlock] at hka hkc
    have h1 := (List.getElem?_eq_some_iff.1 hp)
    have h2 := (List.getElem?_eq_some_iff.1 hq)
    obtain ⟨l1, e1⟩ := h1
    obtain ⟨l2, e2⟩ := h2
    have hP := List.pairwise_iff_getElem.1 hT.apart
    rcases Nat.lt_or_gt_of_ne hij with hlt | hlt
    · exact hP i j l1 l2 hlt (by rw [e1, e2, hka, hkc])
    · exact hP j i l2 l1 hlt (by rw [e1, e2, hka, hkc])
end
end Go.Proofs.YtembflnhhfliaaaGreatDoor
