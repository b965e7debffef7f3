/- For every capacity and every script the law RingPlays returns true, and the script reads as it did. No conditions. -/
import Derived.Test.YtgdffhmbhknfcaaAsk10
import Derived.Test.YtgdffhmbhknfcaaOp10
namespace Go.Proofs.Ytgdffhmbhknfcaa.ringPlays
open Go.ChangeShapes Go.WideShapes Go.ChangeAt Go.RowKit Go.Lib
set_option linter.unusedVariables false
set_option linter.unusedSimpArgs false

/-- Both pairs: a ring and the document's; a zero one and none. -/
structure Two (w W : World) (p q : Option Addr) (z : Nat) (O1 O2 : List Nat) (C : Nat) (xs : List Int) (cl : Bool) : Prop where
  a : AS W p q O1 O2 C xs cl
  b : NoR W (some ⟨z, 0, none⟩)
  n1 : z ∉ O1
  n2 : z ∉ O2
  nw : ∀ b, b ∈ O1 ++ O2 → w.heap.size ≤ b
  fr : Fr [] w W
theorem Two.zero {w W : World} {p q : Option Addr} {z : Nat} {O1 O2 : List Nat} {C : Nat} {xs : List Int} {cl : Bool} (h : Two w W p q z O1 O2 C xs cl) : AS W (some ⟨z, 0, none⟩) none [] [] 0 [] false :=
  ⟨Or.inr ⟨h.b, rfl, rfl, rfl, rfl⟩, Or.inr ⟨rfl, rfl, rfl, rfl, rfl⟩, by simp, by simp⟩
theorem Two.zlt {w W : World} {p q : Option Addr} {z : Nat} {O1 O2 : List Nat} {C : Nat} {xs : List Int} {cl : Bool} (h : Two w W p q z O1 O2 C xs cl) : z < W.heap.size := by
  rcases h.b with h | ⟨z', e, hz⟩
  · cases h
  · cases e; exact lt_of_block hz
theorem Two.next {w W W' : World} {p q : Option Addr} {z : Nat} {O1 O2 O1' O2' : List Nat} {C : Nat} {xs xs' : List Int} {cl cl' : Bool} (h : Two w W p q z O1 O2 C xs cl) (ha : AS W' p q O1' O2' C xs' cl') (hf : Fr (O1 ++ O2) W W') (hn : Nw W (O1 ++ O2) (O1' ++ O2')) : Two w W' p q z O1' O2' C xs' cl' := by
  have hz := h.zlt
  have hzn : ∀ b, b ∈ O1' ++ O2' → b ≠ z := by
    rintro b hb rfl
    rcases hn b hb with h3 | h3
    · simp only [List.mem_append] at h3
      rcases h3 with h3 | h3
      · exact h.n1 h3
      · exact h.n2 h3
    · omega
  refine ⟨ha, h.b.keep hf (fun a e => by cases e; simp; exact ⟨h.n1, h.n2⟩), fun hh => hzn z (by simp [hh]) rfl, fun hh => hzn z (by simp [hh]) rfl, fun b hb => ?_, h.fr.on hf h.nw⟩
  rcases hn b hb with h3 | h3
  · exact h.nw b h3
  · have := h.fr.size; omega
theorem Two.same {w W W' : World} {p q : Option Addr} {z : Nat} {O1 O2 : List Nat} {C : Nat} {xs : List Int} {cl : Bool} (h : Two w W p q z O1 O2 C xs cl) (hf : Fr [] W W') : Two w W' p q z O1 O2 C xs cl :=
  ⟨h.a.same hf, h.b.keep hf (by simp), h.n1, h.n2, h.nw, h.fr.then hf⟩
set_option maxHeartbeats 16000000 in
set_option maxRecDepth 100000 in
theorem walk (k : Int) (ao : Option Addr) (L cap : Nat) (os : List (Nat × Int)) (w : World) (hk : -9223372036854775808 ≤ k ∧ k ≤ 9223372036854775807) (hA : OArg w ao L cap os) :
    Calls Try.prog 3 #[.int .i64 k, .slice ao L cap] w fun e w' => e = .returned (.bool true) ∧ Fr [] w w' := by
  have HA : Hid (OArg w ao L cap os) := hA
  have hLm := hA.most
  clear hA
  have HBy : Hid (Calls _ _ _ _ _) := beyond_any w.heap.size L (w.alloc (.cells #[.int .i64 (L : Int)] 3)) (by omega) (by rw [cell_of_row _ _ _ _ _ _ (heap_alloc_new w _)]; rfl)
  have hF1 : Fr [] w (w.alloc (.cells #[.int .i64 (L : Int)] 3)) := Fr.alloc _ _ _
  by_cases hbig : 1048576 < L
  · have hd : decide (1048576 < L) = true := decide_eq_true hbig
    rw [hd] at HBy
    go_enter Try.func3, Try.ntmps3
    go_wp2_with fail
    refine Calls.mono HBy.out ?_
    rintro e w1 ⟨rfl, rfl⟩
    go_wp2
    go_ret
    exact ⟨rfl, hF1⟩
  have hd : decide (1048576 < L) = false := decide_eq_false hbig
  rw [hd] at HBy
  by_cases hc : 1 ≤ k ∧ k ≤ 65536
  · have N1 : Hid (∀ W, Calls _ _ _ _ _) := fun W => gnew_any k W hc
    have N2 : Hid (∀ W, Calls _ _ _ _ _) := fun W => qnew_any k W hc
    go_enter Try.func3, Try.ntmps3
    go_wp2_with fail
    refine Calls.mono HBy.out ?_
    rintro e w1 ⟨rfl, rfl⟩
    obtain ⟨w2, HW2⟩ : ∃ w2, Hid (w.alloc (.cells #[.int .i64 (L : Int)] 3) = w2) := ⟨_, rfl⟩
    rw [HW2.out] at hF1 ⊢
    clear HW2 HBy
    go_wp2_with fail
    refine Calls.mono (N1.out _) ?_
    rintro e w3 ⟨g, rfl, hg, hR3, hF3⟩
    go_wp2_with fail
    refine Calls.mono (N2.out _) ?_
    rintro e w4 ⟨q, rfl, hq, hQ4, hF4⟩
    have hG4 := hF1.then (hF3.then hF4)
    have hgl := hR3.lt
    have hql := hQ4.lt
    have hs1 := hF1.size
    have hs3 := hF3.size
    have hs4 := hF4.size
    have hAS : AS w4 (some ⟨g, 0, none⟩) (some ⟨q, 0, none⟩) (Rg.own g none) [q] k.toNat [] false := ⟨Or.inl ⟨g, none, rfl, rfl, hR3.same hF4⟩, Or.inl ⟨q, none, 0, 0, rfl, rfl, hQ4⟩, by intro b hb; simp [Rg.own] at hb; simp; omega, by intro a e; cases e; simp; omega⟩
    have hZ1 : w4.heap.size ∉ Rg.own g none := by simp [Rg.own]; omega
    have hZ2 : w4.heap.size ∉ [q] := by simp; omega
    have hNW : ∀ b, b ∈ Rg.own g none ++ [q] → w.heap.size ≤ b := by intro b hb; simp [Rg.own] at hb; omega
    clear hR3 hQ4 hF3 hF4 hg hq hgl hql hs1 hs3 hs4 hF1 N1 N2
    obtain ⟨C, hC⟩ : ∃ C, C = k.toNat := ⟨_, rfl⟩
    obtain ⟨U1, hU1⟩ : ∃ U1, U1 = Rg.own g none := ⟨_, rfl⟩
    obtain ⟨U2, hU2⟩ : ∃ U2, U2 = [q] := ⟨_, rfl⟩
    rw [← hC, ← hU1, ← hU2] at hAS
    rw [← hU1] at hZ1
    rw [← hU2] at hZ2
    rw [← hU1, ← hU2] at hNW
    clear hC hU1 hU2
    have hz5 : (w4.alloc (.cells #[.int .i64 0, .slice none 0 0, .int .i64 0, .int .i64 0, .bool false] 33)).heap[w4.heap.size]? = some (.cells #[.int .i64 0, .slice none 0 0, .int .i64 0, .int .i64 0, .bool false] 33 (0, 0)) := heap_alloc_new w4 _
    have hF5 : Fr [] w4 (w4.alloc (.cells #[.int .i64 0, .slice none 0 0, .int .i64 0, .int .i64 0, .bool false] 33)) := Fr.alloc _ _ _
    have HT5 : Hid (Two w (w4.alloc (.cells #[.int .i64 0, .slice none 0 0, .int .i64 0, .int .i64 0, .bool false] 33)) (some ⟨g, 0, none⟩) (some ⟨q, 0, none⟩) w4.heap.size U1 U2 C [] false) := ⟨hAS.same hF5, Or.inr ⟨_, rfl, hz5⟩, hZ1, hZ2, hNW, hG4.then hF5⟩
    clear hAS hz5 hZ1 hZ2 hNW
    go_wp2_with fail
    obtain ⟨w5, HW5⟩ : ∃ w5, Hid (w4.alloc (.cells #[.int .i64 0, .slice none 0 0, .int .i64 0, .int .i64 0, .bool false] 33) = w5) := ⟨_, rfl⟩
    rw [HW5.out] at HT5 ⊢
    obtain ⟨z, hz⟩ : ∃ z, z = w4.heap.size := ⟨_, rfl⟩
    rw [← hz] at HT5 ⊢
    clear HW5 hz hF5
    go_loopw [11] (fun ii wr => ∃ (i : Nat) (O1 O2 : List Nat) (xs : List Int) (cl : Bool), ii = .int .i64 i ∧ i ≤ L ∧ Hid (Two w wr (some ⟨g, 0, none⟩) (some ⟨q, 0, none⟩) z O1 O2 C xs cl)) (fun ii _ => L - (intOf ii).toNat)
    case atStart => exact ⟨0, U1, U2, [], false, rfl, Nat.zero_le _, HT5⟩
    case round =>
      clear HT5
      obtain ⟨i, O1, O2, xs, cl, rfl, hiL, HT⟩ := hrel
      by_cases hi : i < L
      · obtain ⟨b, off, rfl, hbl, hat⟩ := HA.out.lies (by omega)
        obtain ⟨o, ho⟩ : ∃ o, o = os.getD i (0, 0) := ⟨_, rfl⟩
        have hoe := HA.out.each o (by rw [ho]; have := HA.out.len; simp [List.getD]; rw [List.getElem?_eq_getElem (by omega)]; simp)
        have HX : Hid (∀ W, Fr [] w W → W.cell? ⟨b, off + i * 2, none⟩ = some (.int .u8 (o.1 : Int)) ∧ W.cell? ⟨b, off + i * 2 + 1, none⟩ = some (.int .i64 o.2)) := fun W hf => by
          rw [ho]
          exact ⟨(World.cell?_of_block (hf.block b hbl (by simp))).trans (hat i hi).1, (World.cell?_of_block (hf.block b hbl (by simp))).trans (hat i hi).2⟩
        obtain ⟨o1, o2⟩ := o
        simp only at HX hoe
        clear hat ho
        obtain ⟨e0, e1⟩ := HX.out _ HT.out.fr
        have Q1 : Hid (Calls _ _ _ _ _) := asked_any (some ⟨g, 0, none⟩) (some ⟨q, 0, none⟩) O1 O2 C xs cl o1 o2 wr HT.out.a hoe.1 hoe.2
        have Q2 : Hid (∀ W, AS W (some ⟨z, 0, none⟩) none [] [] 0 [] false → Calls _ _ _ _ _) := fun W hW => asked_any (some ⟨z, 0, none⟩) none [] [] 0 [] false o1 o2 W hW hoe.1 hoe.2
        clear hoe
        go_wp2_with fail
        refine Calls.mono Q1.out ?_
        rintro e w6 ⟨rfl, O1', O2', xs', cl', hA6, hF6, hN6⟩
        have hT6 := HT.out.next hA6 hF6 hN6
        obtain ⟨g0, g1⟩ := HX.out _ hT6.fr
        have HT6 : Hid (Two w w6 (some ⟨g, 0, none⟩) (some ⟨q, 0, none⟩) z O1' O2' C xs' cl') := hT6
        clear hT6 HT hA6 hF6 hN6 Q1 e0 e1
        go_wp2_with fail
        refine Calls.mono (Q2.out w6 HT6.out.zero) ?_
        rintro e w7 ⟨rfl, O3, O4, _, _, _, hF7, _⟩
        have HT7 : Hid (Two w w7 (some ⟨g, 0, none⟩) (some ⟨q, 0, none⟩) z O1' O2' C xs' cl') := HT6.out.same hF7
        clear HT6 hF7 Q2 g0 g1
        go_wp2
        exact ⟨⟨i + 1, O1', O2', xs', cl', by simp, by omega, HT7⟩, by simp [intOf]; omega⟩
      · have G1 : Hid (Calls _ _ _ _ _) := ps_gone 1048576 HT.out.a.ps (by decide)
        have G2 : Hid (∀ W, Fr [] wr W → Calls _ _ _ _ _) := fun W hf => qs_all (HT.out.a.qs.same hf)
        have hfw := HT.out.a.ps.few
        have htk : xs.take (1048576 : Int).toNat = xs := List.take_of_length_le (by show xs.length ≤ 1048576; omega)
        have HFR : Hid (Fr [] w wr) := HT.out.fr
        rw [htk] at G1
        clear HT htk
        go_wp2_with fail
        refine Calls.mono G1.out ?_
        rintro e w6 ⟨lo6, n6, c6, rfl, hQ6, hF6⟩
        go_wp2_with fail
        refine Calls.mono (G2.out _ hF6) ?_
        rintro e w7 ⟨lo7, n7, c7, rfl, hQ7, hF7⟩
        have G3 : Hid (Calls _ _ _ _ _) := sameInts_any lo6 lo7 n6 n7 c6 c7 xs w7 (hQ6.keep hF7 (by simp)) hQ7 (by omega)
        clear hQ6 hQ7 G1 G2
        go_wp2_with fail
        refine Calls.mono G3.out ?_
        rintro e w8 ⟨rfl, hF8⟩
        go_wp2
        go_ret
        exact ⟨rfl, HFR.out.then (hF6.then (hF7.then hF8))⟩
  · have N1 : Hid (∀ W, Calls _ _ _ _ _) := fun W => gnew_no k W (by omega)
    have N2 : Hid (∀ W, Calls _ _ _ _ _) := fun W => qnew_no k W (by omega)
    go_enter Try.func3, Try.ntmps3
    go_wp2_with fail
    refine Calls.mono HBy.out ?_
    rintro e w1 ⟨rfl, rfl⟩
    obtain ⟨w2, HW2⟩ : ∃ w2, Hid (w.alloc (.cells #[.int .i64 (L : Int)] 3) = w2) := ⟨_, rfl⟩
    rw [HW2.out] at hF1 ⊢
    clear HW2 HBy
    go_wp2_with fail
    refine Calls.mono (N1.out _) ?_
    rintro e w3 ⟨rfl, rfl⟩
    go_wp2_with fail
    refine Calls.mono (N2.out _) ?_
    rintro e w3 ⟨rfl, rfl⟩
    obtain ⟨w4, hw4⟩ : ∃ w4, w4 = w2 := ⟨_, rfl⟩
    rw [← hw4] at hF1 ⊢
    have hG4 := hF1
    have hAS : AS w4 none none [] [] 0 [] false := ⟨Or.inr ⟨Or.inl rfl, rfl, rfl, rfl, rfl⟩, Or.inr ⟨rfl, rfl, rfl, rfl, rfl⟩, by simp, by simp⟩
    have hZ1 : w4.heap.size ∉ ([] : List Nat) := by simp
    have hZ2 : w4.heap.size ∉ ([] : List Nat) := by simp
    have hNW : ∀ b, b ∈ ([] : List Nat) ++ [] → w.heap.size ≤ b := by simp
    clear hw4 hF1 N1 N2
    have hz5 : (w4.alloc (.cells #[.int .i64 0, .slice none 0 0, .int .i64 0, .int .i64 0, .bool false] 33)).heap[w4.heap.size]? = some (.cells #[.int .i64 0, .slice none 0 0, .int .i64 0, .int .i64 0, .bool false] 33 (0, 0)) := heap_alloc_new w4 _
    have hF5 : Fr [] w4 (w4.alloc (.cells #[.int .i64 0, .slice none 0 0, .int .i64 0, .int .i64 0, .bool false] 33)) := Fr.alloc _ _ _
    have HT5 : Hid (Two w (w4.alloc (.cells #[.int .i64 0, .slice none 0 0, .int .i64 0, .int .i64 0, .bool false] 33)) none none w4.heap.size [] [] 0 [] false) := ⟨hAS.same hF5, Or.inr ⟨_, rfl, hz5⟩, hZ1, hZ2, hNW, hG4.then hF5⟩
    clear hAS hz5 hZ1 hZ2 hNW
    go_wp2_with fail
    obtain ⟨w5, HW5⟩ : ∃ w5, Hid (w4.alloc (.cells #[.int .i64 0, .slice none 0 0, .int .i64 0, .int .i64 0, .bool false] 33) = w5) := ⟨_, rfl⟩
    rw [HW5.out] at HT5 ⊢
    obtain ⟨z, hz⟩ : ∃ z, z = w4.heap.size := ⟨_, rfl⟩
    rw [← hz] at HT5 ⊢
    clear HW5 hz hF5
    go_loopw [11] (fun ii wr => ∃ (i : Nat) (O1 O2 : List Nat) (xs : List Int) (cl : Bool), ii = .int .i64 i ∧ i ≤ L ∧ Hid (Two w wr none none z O1 O2 0 xs cl)) (fun ii _ => L - (intOf ii).toNat)
    case atStart => exact ⟨0, [], [], [], false, rfl, Nat.zero_le _, HT5⟩
    case round =>
      clear HT5
      obtain ⟨i, O1, O2, xs, cl, rfl, hiL, HT⟩ := hrel
      by_cases hi : i < L
      · obtain ⟨b, off, rfl, hbl, hat⟩ := HA.out.lies (by omega)
        obtain ⟨o, ho⟩ : ∃ o, o = os.getD i (0, 0) := ⟨_, rfl⟩
        have hoe := HA.out.each o (by rw [ho]; have := HA.out.len; simp [List.getD]; rw [List.getElem?_eq_getElem (by omega)]; simp)
        have HX : Hid (∀ W, Fr [] w W → W.cell? ⟨b, off + i * 2, none⟩ = some (.int .u8 (o.1 : Int)) ∧ W.cell? ⟨b, off + i * 2 + 1, none⟩ = some (.int .i64 o.2)) := fun W hf => by
          rw [ho]
          exact ⟨(World.cell?_of_block (hf.block b hbl (by simp))).trans (hat i hi).1, (World.cell?_of_block (hf.block b hbl (by simp))).trans (hat i hi).2⟩
        obtain ⟨o1, o2⟩ := o
        simp only at HX hoe
        clear hat ho
        obtain ⟨e0, e1⟩ := HX.out _ HT.out.fr
        have Q1 : Hid (Calls _ _ _ _ _) := asked_any none none O1 O2 0 xs cl o1 o2 wr HT.out.a hoe.1 hoe.2
        have Q2 : Hid (∀ W, AS W (some ⟨z, 0, none⟩) none [] [] 0 [] false → Calls _ _ _ _ _) := fun W hW => asked_any (some ⟨z, 0, none⟩) none [] [] 0 [] false o1 o2 W hW hoe.1 hoe.2
        clear hoe
        go_wp2_with fail
        refine Calls.mono Q1.out ?_
        rintro e w6 ⟨rfl, O1', O2', xs', cl', hA6, hF6, hN6⟩
        have hT6 := HT.out.next hA6 hF6 hN6
        obtain ⟨g0, g1⟩ := HX.out _ hT6.fr
        have HT6 : Hid (Two w w6 none none z O1' O2' 0 xs' cl') := hT6
        clear hT6 HT hA6 hF6 hN6 Q1 e0 e1
        go_wp2_with fail
        refine Calls.mono (Q2.out w6 HT6.out.zero) ?_
        rintro e w7 ⟨rfl, O3, O4, _, _, _, hF7, _⟩
        have HT7 : Hid (Two w w7 none none z O1' O2' 0 xs' cl') := HT6.out.same hF7
        clear HT6 hF7 Q2 g0 g1
        go_wp2
        exact ⟨⟨i + 1, O1', O2', xs', cl', by simp, by omega, HT7⟩, by simp [intOf]; omega⟩
      · have G1 : Hid (Calls _ _ _ _ _) := ps_gone 1048576 HT.out.a.ps (by decide)
        have G2 : Hid (∀ W, Fr [] wr W → Calls _ _ _ _ _) := fun W hf => qs_all (HT.out.a.qs.same hf)
        have hfw := HT.out.a.ps.few
        have htk : xs.take (1048576 : Int).toNat = xs := List.take_of_length_le (by show xs.length ≤ 1048576; omega)
        have HFR : Hid (Fr [] w wr) := HT.out.fr
        rw [htk] at G1
        clear HT htk
        go_wp2_with fail
        refine Calls.mono G1.out ?_
        rintro e w6 ⟨lo6, n6, c6, rfl, hQ6, hF6⟩
        go_wp2_with fail
        refine Calls.mono (G2.out _ hF6) ?_
        rintro e w7 ⟨lo7, n7, c7, rfl, hQ7, hF7⟩
        have G3 : Hid (Calls _ _ _ _ _) := sameInts_any lo6 lo7 n6 n7 c6 c7 xs w7 (hQ6.keep hF7 (by simp)) hQ7 (by omega)
        clear hQ6 hQ7 G1 G2
        go_wp2_with fail
        refine Calls.mono G3.out ?_
        rintro e w8 ⟨rfl, hF8⟩
        go_wp2
        go_ret
        exact ⟨rfl, HFR.out.then (hF6.then (hF7.then hF8))⟩

theorem own : ownKnob Try.prog.godebug = none := by kernel_rfl
theorem laidOut : laidOutB Try.prog = true := by kernel_rfl
set_option maxHeartbeats 4000000 in
set_option maxRecDepth 100000 in
theorem lifted (os : Os) (started : os.Started) (H : Type) (enc : TypeId × Value → H) :
    ReturnsInHanded {} Try.checked os 3 .any (Rows.ringPlaysSpec.pre6 enc Try.prog Try.f3 Rows.ringPlaysRow.domain false) (Rows.ringPlaysSpec.post enc Try.prog Try.f3 false true false false) := by
  refine returnsInHanded_of_change_sized (C := Try.checked) own started (by kernel_rfl) Try.func3
    (ChangeSpec.witness6 (enc := enc) (C := Try.checked) false ⟨#[], #[.int .i64 0, .slice none 0 0], []⟩ 8 (by kernel_rfl) (by kernel_rfl) (by kernel_rfl) (by kernel_rfl)) ?_
  intro W base args ds gs before hval0 hW hcnd hsz0 _
  have hval : ∀ (j : Nat) t v, Try.f3.params[j]? = some t → args[j]? = some v → Value.okWide Try.prog W .any base t v := hval0
  have hsz : (DataW.weightsEach Try.prog (Try.f3.params.toList ++ Rows.ringPlaysSpec.plain.varTypes Try.prog) (ds ++ gs)).all (· ≤ reachBytes) = true := hsz0
  have hW' := hW
  obtain ⟨p, q, hA0, hV, rfl, hfz, hnd⟩ := hW
  have hA : DataW.TrodAll enc Try.prog W 0 (fun _ => true) true Try.f3.params.toList args.toList ds p := hA0
  rw [Try.params3] at hA hval hsz
  obtain ⟨v0, vs0, d0, ds0, p0, q0, hargs, rfl, rfl, h0, r0⟩ := trodAll_cons hA
  obtain ⟨v1, vs1, d1, ds1, p1, q1, rfl, rfl, rfl, h1, r1⟩ := trodAll_cons r0
  obtain ⟨rfl, rfl, rfl⟩ := trodAll_nil r1
  obtain rfl : args = #[v0, v1] := by cases args; simp_all
  obtain ⟨rfl, rfl⟩ := trodVars_none hV
  obtain ⟨n0, rfl, rfl, rfl, w0⟩ := open_int Try.underlying3 (hval 0 3 v0 rfl rfl) h0
  have b0 := bounds_i64 w0
  have k1 := h1
  have lt1 : ∀ x ∈ p1, x.block < W.heap.size := by obtain ⟨m, hm⟩ := k1; exact DataW.trod_lt m _ _ _ hm
  obtain ⟨a1, len1, cap1, xs1, rfl, hB1⟩ : ∃ ao L cap xs, v1 = .slice ao L cap ∧ OArg W ao L cap xs := by
    obtain ⟨fuel, hf⟩ := h1
    obtain ⟨ao, L, cap, rfl⟩ := okWide_slice Try.undOps10 (hval 1 22 v1 rfl rfl)
    obtain ⟨ao', L', cap', xs, e, hA⟩ := ops_open hf
    exact ⟨ao', L', cap', xs, by simpa [Value.cells] using e, hA⟩
  clear hA0 hval0
  refine (walk n0 a1 len1 cap1 xs1 W b0 hB1).mono fun e W' ⟨he, hf⟩ => ?_
  subst he
  have bel : Below W.heap.size W W' := hf.below (Nat.le_refl _) (by simp)
  exact ⟨_, rfl, _, _, _, [], _, [], hW', trodAll_mk1 (shut_bool Try.underlying4 _), (trodAll_cons_mk (shut_int Try.underlying3 w0) (trodAll_cons_mk (Below.trod laidOut (by kernel_rfl) (of_decide_eq_true (by kernel_rfl)) k1 bel lt1) trodAll_mk0)), rfl, bel.frame _, fun h => by cases h⟩

theorem over : Rows.ringPlaysRow.holds Try.pinned (OpenSpec.ofChange Rows.ringPlaysSpec) :=
  OpenClaim.holds_of_wide 3 Try.f3 rfl rfl rfl rfl rfl rfl rfl ⟨rfl, rfl, rfl, rfl, rfl⟩ rfl rfl rfl rfl rfl (by kernel_rfl) Try.func3 (by kernel_rfl)
    (of_decide_eq_true (by kernel_rfl)) (by unfold Func.isWrapper; first | (rw [if_pos (by decide +kernel)]; kernel_rfl) | (rw [if_neg (by decide +kernel)]; exact ⟨rfl, rfl⟩))
    (fun os started H enc _ => lifted os started H enc)
end Go.Proofs.Ytgdffhmbhknfcaa.ringPlays
namespace Go.Proofs.Ytgdffhmbhknfcaa
theorem ringplays_holds : Rows.RingPlaysSaid := ringPlays.over
#print axioms ringplays_holds
end Go.Proofs.Ytgdffhmbhknfcaa
