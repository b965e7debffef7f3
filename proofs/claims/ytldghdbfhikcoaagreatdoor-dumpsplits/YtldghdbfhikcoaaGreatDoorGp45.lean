/- Texts of this claim laid together, one behind the other: contracts and plain lemmas; conditions as each names them. -/
import Derived.Test.YtldghdbfhikcoaaGreatDoorGp44
/- A checkpoint parted by shards: contract of Split. Conditions as each names them. -/
namespace Go.Proofs.YtldghdbfhikcoaaGreatDoor
open Go.ChangeShapes Go.WideShapes Go.ChangeAt Go.RowKit Go.Lib Go.Maps
set_option linter.unusedVariables false
set_option linter.unusedSimpArgs false

/-- A list of keys, and where it lies. -/
structure Lr where
  ro : Option Addr
  N : Nat
  rc : Nat
  hs : List Hd
def Lr.zero : Lr := ⟨none, 0, 0, []⟩
def Lr.v (x : Lr) : Value := .slice x.ro x.N x.rc
def Lr.Far (a b : Lr) : Prop := Apa a.ro b.ro ∧ ∀ x ∈ a.hs, ∀ y ∈ b.hs, Apa x.vo y.vo
/-- A row of lists being filled. -/
structure Lm (w : World) (lb S : Nat) (rs : List Lr) : Prop where
  blk : ∃ cs : Array Value, w.heap[lb]? = some (.cells cs 23 (0, 0)) ∧ cs.size = S ∧ ∀ j, j < rs.length → cs[j]? = some (rs.getD j Lr.zero).v
theorem Lm.keep {T : List Nat} {w w' : World} {lb S : Nat} {rs : List Lr} (h : Lm w lb S rs) (hf : Fr T w w') (hn : lb ∉ T) : Lm w' lb S rs := by
  obtain ⟨cs, h1, h2, h3⟩ := h.blk
  exact ⟨cs, hf.keep h1 hn, h2, h3⟩
theorem Lm.cell {w : World} {lb S : Nat} {rs : List Lr} (h : Lm w lb S rs) (j : Nat) (hj : j < S) : ∃ v, w.cell? ⟨lb, j, none⟩ = some v ∧ w.frozen? ⟨lb, j, none⟩ = false := by
  obtain ⟨cs, h1, h2, _⟩ := h.blk
  exact ⟨cs[j]'(by omega), by rw [cell_of_row _ _ _ _ _ _ h1]; simp [h2, hj], vfrozen h1 j⟩
theorem Lm.at {w : World} {lb S : Nat} {rs : List Lr} (h : Lm w lb S rs) (j : Nat) (hj : j < rs.length) : w.cell? ⟨lb, j, none⟩ = some (rs.getD j Lr.zero).v := by
  obtain ⟨cs, h1, h2, h3⟩ := h.blk
  rw [cell_of_row _ _ _ _ _ _ h1]
  exact h3 j hj
theorem Lm.put {w : World} {lb S : Nat} {rs : List Lr} (h : Lm w lb S rs) (hi : rs.length < S) (x : Lr) : Lm (w.setCell ⟨lb, rs.length, none⟩ x.v) lb S (rs ++ [x]) := by
  obtain ⟨cs, h1, h2, h3⟩ := h.blk
  refine ⟨_, row_put18 _ h1, by simpa using h2, fun j hj => ?_⟩
  simp only [List.length_append, List.length_cons, List.length_nil] at hj
  by_cases hji : j = rs.length
  · subst hji
    simp [h2, hi, List.getD]
  · rw [Array.getElem?_setIfInBounds_ne (by omega), h3 j (by omega)]
    simp [List.getD, List.getElem?_append_left (show j < rs.length by omega)]
theorem made_lists {w' : World} {b C : Nat} {ys : List Value} (h : w'.ownsRow 0 23 1 (.slice (some ⟨b, 0, none⟩) C C) C ys) : Lm w' b C [] := by
  rcases h.2 with ⟨hh, _⟩ | ⟨g', cap', cur, hh, hb, hg, hnc, hcm, hcs, ht⟩
  · cases hh
  · cases hh
    exact ⟨cur, hg, by simpa using hcs, fun j hj => by simp at hj⟩
/-- What Split hands out, as far as it has come. -/
structure SpI (w wr : World) (lb S Lh : Nat) (hs : List Hd) (rs : List Lr) : Prop where
  lm : Lm wr lb S rs
  fr : Fr [] w wr
  nb : w.heap.size ≤ lb
  each : ∀ j, j < rs.length → HOut w wr (rs.getD j Lr.zero).ro (rs.getD j Lr.zero).N (rs.getD j Lr.zero).rc (rs.getD j Lr.zero).hs ∧ (rs.getD j Lr.zero).hs.map Hd.kv = livK (S : Int) (j : Int) hs ∧ (rs.getD j Lr.zero).N ≤ Lh
  far : ∀ j k, j < k → k < rs.length → (rs.getD j Lr.zero).Far (rs.getD k Lr.zero)
theorem SpI.keep {w wr w' : World} {lb S Lh : Nat} {hs : List Hd} {rs : List Lr} (h : SpI w wr lb S Lh hs rs) (hf : Fr [] wr w') : SpI w w' lb S Lh hs rs :=
  ⟨h.lm.keep hf (by simp), h.fr.then hf, h.nb, fun j hj => ⟨(h.each j hj).1.keep hf, (h.each j hj).2⟩, h.far⟩
theorem SpI.add {w wr w1 : World} {lb S Lh : Nat} {hs : List Hd} {rs : List Lr} (h : SpI w wr lb S Lh hs rs) (hi : rs.length < S) {x : Lr} (hF : Fr [] wr w1) (hx : HOut wr w1 x.ro x.N x.rc x.hs) (hk : x.hs.map Hd.kv = livK (S : Int) (rs.length : Int) hs) (hN : x.N ≤ Lh) : SpI w (w1.setCell ⟨lb, rs.length, none⟩ x.v) lb S Lh hs (rs ++ [x]) := by
  have hk1 := h.keep hF
  have hFs : Fr [lb] w1 (w1.setCell ⟨lb, rs.length, none⟩ x.v) := Fr.set _ _ _ (by simp)
  obtain ⟨cs, hb, _⟩ := hk1.lm.blk
  have hoff : ∀ {b0 : World} {ro : Option Addr} {N rc : Nat} {ks : List Hd}, HOut b0 w1 ro N rc ks → HOut b0 (w1.setCell ⟨lb, rs.length, none⟩ x.v) ro N rc ks := fun hO => hO.keepS hFs (fun k hk hm => by
    obtain ⟨_, cur, hc⟩ := owns_cells hO.row hk
    simp at hm
    subst hm
    rw [hb] at hc
    simp only [Option.some.injEq, Obj.cells.injEq] at hc
    exact absurd hc.2.1 (by decide)) (fun j cur hc hm => by
    simp at hm
    subst hm
    rw [hb] at hc
    simp only [Option.some.injEq, Obj.cells.injEq] at hc
    exact absurd hc.2.1 (by decide))
  have hg : ∀ j, j < rs.length → (rs ++ [x]).getD j Lr.zero = rs.getD j Lr.zero := fun j hj => by simp [List.getD, List.getElem?_append_left hj]
  have hl : (rs ++ [x]).getD rs.length Lr.zero = x := by simp [List.getD]
  refine ⟨hk1.lm.put hi x, hk1.fr.on hFs (by intro k hk; simp at hk; have := h.nb; omega), h.nb, fun j hj => ?_, fun j k hjk hkl => ?_⟩
  · simp only [List.length_append, List.length_cons, List.length_nil] at hj
    by_cases hji : j = rs.length
    · subst hji
      rw [hl]
      have h1 := hoff hx
      exact ⟨⟨h1.len, own_base h1.row h.fr.size, fun y hy => (h1.each y hy).later h.fr.size, h1.apart⟩, hk, hN⟩
    · rw [hg j (by omega)]
      obtain ⟨h1, h2⟩ := hk1.each j (by omega)
      exact ⟨hoff h1, h2⟩
  · simp only [List.length_append, List.length_cons, List.length_nil] at hkl
    by_cases hki : k = rs.length
    · subst hki
      rw [hl, hg j (by omega)]
      obtain ⟨h1, _⟩ := h.each j (by omega)
      refine ⟨fun p q hp hq e => ?_, fun y hy z hz p q hp hq e => ?_⟩
      · obtain ⟨_, c1, e1⟩ := owns_cells h1.row (k := p.block) (by rw [hp]; rfl)
        have h2 := (owns_cells hx.row (k := q.block) (by rw [hq]; rfl)).1
        have := lt_of_block e1
        omega
      · have h2 := (h1.each y hy).block p hp
        have h3 := (hx.each z hz).block q hq
        omega
    · rw [hg j (by omega), hg k (by omega)]
      exact h.far j k hjk (by omega)
theorem Tryz.undHdss : Tryz.prog.underlying 59 = some (.slice 23) := by kernel_rfl
theorem Tryz.infoHds : (Tryz.prog.info? 23).map (fun i => (i.zero, i.size, i.bytes)) = some (some (.slice none 0 0), 1, 24) := by kernel_rfl
theorem infoHds_parts : ∃ i, Tryz.prog.info? 23 = some i ∧ i.zero = some (.slice none 0 0) ∧ i.size = 1 ∧ i.bytes = 24 := by
  have h := Tryz.infoHds
  cases hi : Tryz.prog.info? 23 with
  | none => rw [hi] at h; cases h
  | some i =>
    rw [hi] at h
    simp only [Option.map_some, Option.some.injEq, Prod.mk.injEq] at h
    exact ⟨i, rfl, h.1, h.2.1, h.2.2⟩
/-- What Split answers. -/
def SpP (c : Cf) (m : Int) (bs : List Int) (hs : List Hd) (Lh : Nat) (w : World) (e : Ending) (w' : World) : Prop :=
  (¬ c.may ∧ e = .returned (.tuple #[.slice none 0 0, .int .i64 7]) ∧ Fr [] w w') ∨
  (c.may ∧ ¬ OkS m bs (hs.map Hd.kv) ∧ e = .returned (.tuple #[.slice none 0 0, .int .i64 1]) ∧ Fr [] w w') ∨
  (c.may ∧ OkS m bs (hs.map Hd.kv) ∧ ∃ (lb S : Nat) (rs : List Lr), c.s = (S : Int) ∧ rs.length = S ∧ e = .returned (.tuple #[.slice (some ⟨lb, 0, none⟩) S S, .int .i64 0]) ∧ SpI w w' lb S Lh hs rs)
set_option maxHeartbeats 8000000 in
set_option maxRecDepth 100000 in
theorem split_any (l s x q m : Int) (bo ho : Option Addr) (Lb cb Lh ch : Nat) (bs : List Int) (hs : List Hd) (w : World) (hI : IRs w bo bs) (hLb : Lb = bs.length) (hH : HRs w ho hs) (hLh : Lh = hs.length) :
    Calls Tryz.prog 23 #[.agg #[.int .i64 l, .int .i64 s, .int .i64 x, .int .i64 q], .agg #[.int .i64 m, .slice bo Lb cb, .slice ho Lh ch]] w fun e w' => SpP ⟨l, s, x, q⟩ m bs hs Lh w e w' := by
  have HLh : Hid (Lh = hs.length) := hLh
  have hLL : Lh ≤ 3518437208882 := by have := hH.few; omega
  obtain ⟨w1, HW1⟩ : ∃ w1, Hid ((w.alloc (.cells #[.int .i64 l, .int .i64 s, .int .i64 x, .int .i64 q] 58)).alloc (.cells #[.int .i64 m, .slice bo Lb cb, .slice ho Lh ch] 25) = w1) := ⟨_, rfl⟩
  have hF1 : Fr [] w w1 := by rw [← HW1.out]; exact (Fr.alloc [] w _).then (Fr.alloc [] _ _)
  have e1 : (w.alloc (.cells #[.int .i64 l, .int .i64 s, .int .i64 x, .int .i64 q] 58)).heap.size = w.heap.size + 1 := by simp
  have hC1 : CfM w1 w.heap.size l s x q := by rw [← HW1.out]; exact (CfM.new _ _ _ _ _ _).keep (Fr.alloc [] _ _)
  have hb1 : w1.heap[w.heap.size + 1]? = some (.cells #[.int .i64 m, .slice bo Lb cb, .slice ho Lh ch] 25 (0, 0)) := by rw [← HW1.out, ← e1]; exact heap_alloc_new _ _
  have HC1 : Hid (∀ W, Fr [] w1 W → CfM W w.heap.size l s x q) := fun W hf => hC1.keep hf
  have HBx : Hid (∀ W, Fr [] w1 W → W.cell? ⟨w.heap.size + 1, 0, none⟩ = some (.int .i64 m) ∧ W.cell? ⟨w.heap.size + 1, 1, none⟩ = some (.slice bo Lb cb) ∧ W.cell? ⟨w.heap.size + 1, 2, none⟩ = some (.slice ho Lh ch)) := fun W hf => by
    have hr := hf.keep hb1 (by simp)
    exact ⟨by rw [cell_of_row _ _ _ _ _ _ hr]; rfl, by rw [cell_of_row _ _ _ _ _ _ hr]; rfl, by rw [cell_of_row _ _ _ _ _ _ hr]; rfl⟩
  have HH : Hid (∀ W, Fr [] w1 W → HRs W ho hs ∧ IRs W bo bs) := fun W hf => ⟨hH.keep (hF1.then hf), hI.keep (hF1.then hf)⟩
  have HF1 : Hid (Fr [] w w1) := hF1
  have HLb : Hid (Lb = bs.length) := hLb
  have hCk := check_cells l s x q w1
  obtain ⟨_, f0, f1, f2, f3⟩ := HC1.out _ (Fr.refl _ _)
  clear hI hH hLb hLh hb1 hF1 hC1 e1
  by_cases hm : Cf.may ⟨l, s, x, q⟩
  · have HM : Hid (Cf.may ⟨l, s, x, q⟩) := hm
    have hE : Cf.err ⟨l, s, x, q⟩ = 0 := if_pos hm
    rw [hE] at hCk
    have HCk : Hid (Calls _ _ _ _ _) := hCk
    obtain ⟨S, hS⟩ : ∃ S : Nat, s = (S : Int) := ⟨s.toNat, by have := hm.2.1.1; simp only at this; omega⟩
    have hs1 : 1 ≤ S ∧ S ≤ 16 := by have := hm.2.1; simp only at this; omega
    obtain ⟨hs1a, hs1b⟩ := hs1
    subst hS
    obtain ⟨c, hck⟩ := CkS.ex m bs hs
    clear hm hE hCk
    go_enter Tryz.func23, Tryz.ntmps23
    go_upto_region 1 with fail
    rw [HW1.out]
    go_wp2_with fail
    refine Calls.mono HCk.out ?_
    rintro e w2 ⟨rfl, hF2⟩
    have HF2 : Hid (Fr [] w1 w2) := hF2
    obtain ⟨k0, k1, k2⟩ := HBx.out _ hF2
    have HC2 : Hid (Calls _ _ _ _ _) := dcheck_any m bo ho Lb cb Lh ch c bs hs w2 (HH.out _ hF2).2 HLb.out (HH.out _ hF2).1 HLh.out hck
    have HCs : Hid (CkS m bs hs c) := hck
    clear HCk hF2 hck
    go_wp2_with fail
    refine Calls.mono HC2.out ?_
    rintro e w3 ⟨rfl, hF3⟩
    have HF3 : Hid (Fr [] w1 w3) := HF2.out.then hF3
    obtain ⟨k0, k1, k2⟩ := HBx.out _ HF3.out
    obtain ⟨_, f0, f1, f2, f3⟩ := HC1.out _ HF3.out
    clear HC2 hF3 HF2
    rcases HCs.out with ⟨rfl, hok⟩ | ⟨rfl, hok⟩
    · have HOk : Hid (OkS m bs (hs.map Hd.kv)) := hok
      have HC4 : Hid (Calls _ _ _ _ _) := homes_any l (S : Int) x q ho Lh ch hs w3 HM.out (HH.out _ HF3.out).1 HLh.out (fun h hh => (hok.lo.2 h.kv (List.mem_map.2 ⟨h, hh, rfl⟩)).1)
      obtain ⟨iI, hiI, hzI, hsI, hbI⟩ := infoHds_parts
      clear hok HCs
      go_wp2_with fail
      refine Calls.mono HC4.out ?_
      rintro e w4 ⟨mb, rfl, hM4, hF4⟩
      have HF4 : Hid (Fr [] w1 w4) := HF3.out.then hF4
      have HM4 : Hid (∀ W, Fr [] w4 W → IRs W (some ⟨mb, 0, none⟩) (hs.map (homeOf (S : Int)))) := fun W hf => hM4.keep hf
      obtain ⟨k0, k1, k2⟩ := HBx.out _ HF4.out
      obtain ⟨_, f0, f1, f2, f3⟩ := HC1.out _ HF4.out
      clear HC4 hM4 hF4 HF3
      go_wp2_with (at_make; refine wpList_make_full _ rfl (.tmp 26) (.tmp 26) 59 rfl 0 23 iI _ 1 Tryz.undHdss hiI hzI hsI .i64 .i64 S S S rfl rfl rfl rfl ?b2 ?b3 ?b4 ?_)
      case b2 => rw [hbI]; omega
      case b3 => unfold maxLen; omega
      case b4 => exact Nat.zero_le _
      intro w5 hown hgrow
      have hF5 : Fr [] w4 w5 := Fr.grown (S := []) hgrow (by simp)
      have HF5 : Hid (Fr [] w4 w5) := hF5
      obtain ⟨lb, hlb⟩ : ∃ lb, lb = w4.heap.size := ⟨_, rfl⟩
      have hL5 := made_lists hown
      rw [← hlb] at hL5 ⊢
      have HI5 : Hid (SpI w w5 lb S Lh hs []) := ⟨hL5, HF1.out.then (HF4.out.then hF5), by rw [hlb]; exact (HF1.out.then HF4.out).size, fun j hj => by simp at hj, fun j k hjk hk => by simp at hk⟩
      obtain ⟨k0, k1, k2⟩ := HBx.out _ (HF4.out.then hF5)
      obtain ⟨_, f0, f1, f2, f3⟩ := HC1.out _ (HF4.out.then hF5)
      have hlb4 : w4.heap.size ≤ lb := by omega
      clear hown hgrow hF5 hlb hL5
      go_wp2_with fail
      go_loopw [30] (fun ii wr => ∃ (i : Nat) (rs : List Lr), ii = .int .i64 i ∧ i ≤ S ∧ Hid (i = rs.length) ∧ Hid (SpI w wr lb S Lh hs rs) ∧ Hid (Fr [] w4 wr)) (fun ii _ => S - (RowKit.intOf ii).toNat)
      case atStart => exact ⟨0, [], rfl, Nat.zero_le _, rfl, HI5, HF5⟩
      case round =>
        obtain ⟨i, rs, rfl, hiS, HLn, HI, HG⟩ := hrel
        by_cases hi : i < S
        · have hlt : (i : Int) < S := by omega
          obtain ⟨k0, k1, k2⟩ := HBx.out _ (HF4.out.then HG.out)
          have r1 := (HH.out _ (HF4.out.then HG.out)).1
          have r2 := HM4.out _ HG.out
          have HC6 : Hid (Calls _ _ _ _ _) := living_any (S : Int) (i : Int) ho (some ⟨mb, 0, none⟩) Lh ch Lh hs wr r1 HLh.out r2
          clear r1 r2
          go_wp2_with fail
          refine Calls.mono HC6.out ?_
          rintro e w6 ⟨ro, N, rc, hs', rfl, hN6, hH6, hK6, hF6⟩
          obtain ⟨v6, g0, g1⟩ := (HI.out.keep hF6).lm.cell i hi
          have hlen : i = rs.length := HLn.out
          have h7 := HI.out.add (by omega) (x := ⟨ro, N, rc, hs'⟩) hF6 hH6 (by rw [← hlen]; exact hK6) hN6
          rw [← hlen] at h7
          have HI7 : Hid (SpI w (w6.setCell ⟨lb, i, none⟩ (.slice ro N rc)) lb S Lh hs (rs ++ [⟨ro, N, rc, hs'⟩])) := h7
          have HLn7 : Hid (i + 1 = (rs ++ [(⟨ro, N, rc, hs'⟩ : Lr)]).length) := by show _ = _; simp [hlen]
          have HG7 : Hid (Fr [] w4 (w6.setCell ⟨lb, i, none⟩ (.slice ro N rc))) := (HG.out.then hF6).on (Fr.set _ ⟨lb, i, none⟩ _ (by simp) : Fr [lb] _ _) (by intro k hk; simp at hk; omega)
          clear hlen h7 hH6 hK6 hF6 HC6 HI HG HLn
          go_wp2_with fail
          go_roundw
          case rel => exact ⟨i + 1, _, by simp, by omega, HLn7, HI7, HG7⟩
          case measure => simp [RowKit.intOf]; omega
        · have hiS2 : i = S := by omega
          have HR : Hid (SpP ⟨l, (S : Int), x, q⟩ m bs hs Lh w (.returned (.tuple #[.slice (some ⟨lb, 0, none⟩) S S, .int .i64 0])) wr) := Or.inr (Or.inr ⟨HM.out, HOk.out, lb, S, rs, rfl, by rw [← HLn.out, hiS2], rfl, HI.out⟩)
          have hlt : ¬ (i : Int) < S := by omega
          clear hiS2 HI HG HLn
          go_wp2
          go_ret2
          exact HR.out
    · have HR : Hid (SpP ⟨l, (S : Int), x, q⟩ m bs hs Lh w (.returned (.tuple #[.slice none 0 0, .int .i64 ((1 : Nat) : Int)])) w3) := Or.inr (Or.inl ⟨HM.out, hok, rfl, HF1.out.then HF3.out⟩)
      clear hok HCs HF3
      go_wp2
      go_ret2
      exact HR.out
  · have hE : Cf.err ⟨l, s, x, q⟩ = 7 := if_neg hm
    rw [hE] at hCk
    have HCk : Hid (Calls _ _ _ _ _) := hCk
    have HNm : Hid (¬ Cf.may ⟨l, s, x, q⟩) := hm
    clear hm hE hCk
    go_enter Tryz.func23, Tryz.ntmps23
    go_upto_region 1 with fail
    rw [HW1.out]
    go_wp2_with fail
    refine Calls.mono HCk.out ?_
    rintro e w2 ⟨rfl, hF2⟩
    have HR : Hid (SpP ⟨l, s, x, q⟩ m bs hs Lh w (.returned (.tuple #[.slice none 0 0, .int .i64 7])) w2) := Or.inl ⟨HNm.out, rfl, HF1.out.then hF2⟩
    clear hF2 HCk
    go_wp2
    go_ret2
    exact HR.out
end Go.Proofs.YtldghdbfhikcoaaGreatDoor
