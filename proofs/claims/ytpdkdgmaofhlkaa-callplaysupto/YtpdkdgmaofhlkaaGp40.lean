/- Texts of this claim laid together, one behind the other: contracts and plain lemmas; conditions as each names them. -/
import Derived.Test.YtpdkdgmaofhlkaaGp39
/- The document's task: the answer to a Get. Conditions as named. -/
namespace Go.Proofs.Ytpdkdgmaofhlkaa
open Go.ChangeShapes Go.WideShapes Go.ChangeAt Go.RowKit Go.Lib Go.Sort
set_option linter.unusedVariables false
set_option linter.unusedSimpArgs false

theorem own_up {w : World} {base : Nat} {e : TypeId} {size : Nat} {v : Value} {n : Nat} {xs : List Value} (h : w.ownsRow 0 e size v n xs) (hb : ∀ k, v.ownBlock = some k → base ≤ k) : w.ownsRow base e size v n xs := by
  refine ⟨h.1, ?_⟩
  rcases h.2 with h0 | ⟨g, cap, cur, hv, _, hr⟩
  · exact Or.inl h0
  · exact Or.inr ⟨g, cap, cur, hv, hb g (by rw [hv]; rfl), hr⟩
/-- Ahead of the append of the one entry of a reply. -/
structure A1 (w W2 : World) (b2 ab t : Nat) (T : Yt) (xs : List Rx) (eo : Option Addr) (en ec : Nat) (ls : List Ey) (y : Ey) : Prop where
  row : (W2.alloc (.cells #[.string y.key, .string y.val] 85)).drew.ownsRow 0 85 2 (.slice eo en ec) en (eysC ls)
  nw : ∀ j u, (eyC y)[j]? = some u → (W2.alloc (.cells #[.string y.key, .string y.val] 85)).drew.cell? ((⟨W2.heap.size, 0, none⟩ : Addr).add j) = some u
  fin : ∀ eo' c' w3, w3.ownsRow 0 85 2 (.slice eo' (en + 1) c') (en + 1) (eysC ls ++ eyC y) → ((Value.slice eo' (en + 1) c').ownBlock = (Value.slice eo en ec).ownBlock ∨ (Value.slice eo' (en + 1) c').ownBlock = some (W2.alloc (.cells #[.string y.key, .string y.val] 85)).drew.heap.size) → Fr (Value.slice eo en ec).ownBlock.toList (W2.alloc (.cells #[.string y.key, .string y.val] 85)).drew w3 →
    (w3.cell? ⟨ab, 3, none⟩ = some (.slice eo en ec) ∧ w3.frozen? ⟨ab, 3, none⟩ = false) ∧ Hid (Ai w (w3.setCell ⟨ab, 3, none⟩ (.slice eo' (en + 1) c')) b2 ab t T xs true eo' (en + 1) c' 0 ∧ (w3.setCell ⟨ab, 3, none⟩ (.slice eo' (en + 1) c')).ownsRow w.heap.size 85 2 (.slice eo' (en + 1) c') (en + 1) (eysC (ls ++ [y])))
theorem A1.of {w W2 : World} {b2 ab t : Nat} {T : Yt} {xs : List Rx} {eo : Option Addr} {en ec : Nat} {ls : List Ey} {y : Ey} (h : Ai w W2 b2 ab t T xs true eo en ec 0) (hX : ∀ x ∈ xs, RxB w x) (hO : W2.ownsRow w.heap.size 85 2 (.slice eo en ec) en (eysC ls)) : A1 w W2 b2 ab t T xs eo en ec ls y := by
  have hfa : Fr [] W2 (W2.alloc (.cells #[.string y.key, .string y.val] 85)).drew := (Fr.alloc [] _ _).then (Fr.drew _ _)
  have hk := h.keep hfa
  have hO2 := owns_keepB hO hfa (by simp)
  refine ⟨owns_zero hO2, ?_, ?_⟩
  · intro j u hu
    have hr := heap_alloc_new W2 (.cells #[.string y.key, .string y.val] 85)
    show (W2.alloc (.cells #[.string y.key, .string y.val] 85)).cell? _ = _
    rw [Addr.add_lit, cell_of_row _ _ _ _ _ _ hr, Nat.zero_add]
    simpa [eyC] using hu
  · intro eo' c' w3 g1 g2 g3
    have hT3 : ∀ {e : TypeId}, e ≠ 85 → ∀ k ∈ (Value.slice eo en ec).ownBlock.toList, ∀ cur, (W2.alloc (.cells #[.string y.key, .string y.val] 85)).drew.heap[k]? ≠ some (.cells cur e (0, 0)) := fun he => own_ne hO2 he
    have hab3 : ab ∉ (Value.slice eo en ec).ownBlock.toList := fun hm => hT3 (by decide) ab hm _ hk.ra
    have hb23 : b2 ∉ (Value.slice eo en ec).ownBlock.toList := fun hm => hT3 (by decide) b2 hm _ hk.r2
    have ht3 : t ∉ (Value.slice eo en ec).ownBlock.toList := fun hm => hT3 (by decide) t hm _ hk.yt
    have hf3 : Fr [] w w3 := hk.fr.on g3 (fun x hx => (owns_cells hO2 (Option.mem_toList.1 hx)).1)
    have h3 : Ai w w3 b2 ab t T xs true eo en ec 0 := ⟨hf3, hk.n2, hk.na, hk.ne, g3.keep hk.r2 hb23, g3.keep hk.ra hab3, hk.yt.keep g3 ht3, ⟨owns_keepT hk.rs.row g3 (hT3 (by decide)), hk.rs.len, hk.rs.few, fun x hx => (hX x hx).keep hf3⟩⟩
    have hFs : Fr [ab] w3 (w3.setCell ⟨ab, 3, none⟩ (.slice eo' (en + 1) c')) := Fr.set _ _ _ (by simp)
    have hT : ∀ k ∈ [ab], ∀ cur, w3.heap[k]? ≠ some (.cells cur 85 (0, 0)) := fun k hk2 cur hc => by
      rw [List.mem_singleton.1 hk2, h3.ra] at hc
      simp only [Option.some.injEq, Obj.cells.injEq] at hc
      exact absurd hc.2.1 (by decide)
    refine ⟨⟨h3.ca.1.2.2.2.1, h3.ca.2.2.1⟩, h3.put hX hFs (by rw [row_put17 _ h3.ra]; rfl), ?_⟩
    have e : eysC (ls ++ [y]) = eysC ls ++ eyC y := by rw [eysC_append]; simp [eysC]
    rw [e]
    refine owns_keepT (own_up g1 fun k hk2 => ?_) hFs hT
    rcases g2 with e | e
    · rw [e] at hk2
      exact (owns_cells hO2 hk2).1
    · rw [e] at hk2
      cases hk2
      have := hk.fr.size
      exact this
set_option maxHeartbeats 4000000 in
set_option maxRecDepth 100000 in
theorem yans1 {w : World} {t : Nat} {T : Yt} {xs : List Rx} (h : YtM w t T) (hk : T.k = 1) (hal : T.al = true) (hR : Rys w T xs) :
    Calls Try.prog 34 #[.pointer (some ⟨t, 0, none⟩)] w (YansP 1 T.ma xs w) := by
  have mixed : Try.prog.follows .mixedOrders = true := by kernel_rfl
  have hF := Fr.alloc [] w (.cells (ansA 0 0 false none 0 0 0) 72)
  have hA := yall_any (h.keep hF (by simp))
  rw [hal] at hA
  have HA : Hid (Calls _ _ _ _ _) := hA
  have HSt : Hid (∀ w1, Fr [] (w.alloc (.cells (ansA 0 0 false none 0 0 0) 72)) w1 → w1.cell? ⟨t, 9, none⟩ = some (.int .i64 T.ma) ∧ Ai w (w1.alloc (.cells (ansA 0 T.ma true none 0 0 0) 72)) w.heap.size w1.heap.size t T xs true none 0 0 0) := fun w1 hf => ⟨(h.keep (hF.then hf) (by simp)).c9, Ai.start h hR hf⟩
  have HX : Hid (∀ x ∈ xs, RxB w x) := hR.each
  have HPl : Hid (T.pl = xs.length) := hR.len
  have hfew := hR.few
  clear h hF hA hal hR
  obtain ⟨n, l, s, x, q, k, key, en0, bg, ma, so, sl, sc, ro, rl, rc, ak, po, pl, pc⟩ := T
  simp only at hk HSt HPl hfew ⊢
  subst hk
  simp only [ansA] at HA HSt
  go_enter Try.func34, Try.ntmps34
  go_wp2_with fail
  refine Calls.mono HA.out ?_
  rintro e w1 ⟨rfl, hf1⟩
  obtain ⟨c9, hI0⟩ := HSt.out w1 hf1
  have HI0 : Hid (Ai _ _ _ _ _ _ _ _ _ _ _ _) := hI0
  clear hf1 HA HSt hI0
  go_upto_region 8 with fail
  obtain ⟨W0, HW0⟩ : ∃ W0, Hid (w1.alloc (.cells #[.int .i64 0, .int .i64 ma, .bool true, .slice none 0 0, .int .i64 0] 72) = W0) := ⟨_, rfl⟩
  rw [HW0.out] at HI0 ⊢
  obtain ⟨b2, hb2⟩ : ∃ b, b = w.heap.size := ⟨_, rfl⟩
  obtain ⟨ab, hab⟩ : ∃ b, b = w1.heap.size := ⟨_, rfl⟩
  rw [← hb2, ← hab] at HI0 ⊢
  clear HW0 hb2 hab c9
  have HS : Hid (∀ wr B eo en ec ct, Ai w wr b2 ab t ⟨n, l, s, x, q, 1, key, en0, bg, ma, so, sl, sc, ro, rl, rc, ak, po, pl, pc⟩ xs B eo en ec ct → wr.cell? ⟨t, 5, none⟩ = some (.int .u8 1) ∧ wr.cell? ⟨t, 13, none⟩ = some (.slice po pl pc)) := fun wr B eo en ec ct h => ⟨h.yt.c5, h.yt.c13⟩
  go_loopw [6, 7] (fun s6 s7 wr => ∃ (i : Nat) (B : Bool) (eo : Option Addr) (en ec : Nat), s6 = .slice none 0 0 ∧ s7 = .int .i64 i ∧ i ≤ pl ∧ Hid (Ai w wr b2 ab t ⟨n, l, s, x, q, 1, key, en0, bg, ma, so, sl, sc, ro, rl, rc, ak, po, pl, pc⟩ xs B eo en ec 0 ∧ B = ansB 1 (xs.take i) ∧ en = (ansE 1 (xs.take i)).length ∧ en ≤ i ∧ wr.ownsRow w.heap.size 85 2 (.slice eo en ec) en (eysC (ansE 1 (xs.take i))))) (fun _ s7 _ => pl - (RowKit.intOf s7).toNat)
  case atStart => exact ⟨0, true, none, 0, 0, rfl, by first | rfl | simp, Nat.zero_le _, HI0.out, rfl, rfl, Nat.le_refl _, ⟨rfl, .inl ⟨rfl, rfl⟩⟩⟩
  case round =>
    clear HI0
    obtain ⟨i, B, eo, en, ec, rfl, rfl, hiP, HI⟩ := hrel
    obtain ⟨d5, d13⟩ := HS.out _ _ _ _ _ _ HI.out.1
    by_cases hiN : i < pl
    · have hlt : (i : Int) < (pl : Int) := by omega
      have hix : i < xs.length := by have := HPl.out; omega
      obtain ⟨pb, rfl, p0, p1, p2, p3, p4⟩ := Rys.at HI.out.1.rs i hiN
      have HRx : Hid (RxB w (xs.getD i Rx.zero)) := HX.out _ (rx_mem xs i hix)
      have HTk : Hid (xs.take (i + 1) = xs.take i ++ [xs.getD i Rx.zero]) := rx_take xs i hix
      obtain ⟨y, hy⟩ : ∃ y, y = xs.getD i Rx.zero := ⟨_, rfl⟩
      rw [← hy] at p0 p1 p2 p3 p4 HRx HTk
      clear hy
      obtain ⟨⟨rto, rok, reo, rel, rec_, rho, rhl, rhc, rct⟩, res_, rhs⟩ := y
      simp only at p0 p1 p2 p3 p4
      go_upto_region 11 with fail
      obtain ⟨W1, HW1⟩ : ∃ W1, Hid (wr.alloc (.cells #[.int .i64 rto, .bool rok, .slice reo rel rec_, .slice rho rhl rhc, .int .i64 rct] 46) = W1) := ⟨_, rfl⟩
      have HF1 : Hid (Fr [] wr W1) := by show Fr _ _ _; rw [← HW1.out]; exact Fr.alloc [] _ _
      have HBx : Hid (W1.heap[wr.heap.size]? = some (.cells #[.int .i64 rto, .bool rok, .slice reo rel rec_, .slice rho rhl rhc, .int .i64 rct] 46 (0, 0))) := by show _ = _; rw [← HW1.out]; exact heap_alloc_new wr _
      obtain ⟨bx, hbx⟩ : ∃ b, b = wr.heap.size := ⟨_, rfl⟩
      rw [HW1.out]
      rw [← hbx] at HBx ⊢
      have HBl : Hid (bx = wr.heap.size) := hbx
      clear HW1 p0 p1 p2 p3 p4 d5 d13 hbx
      have HI1 : Hid (Ai w W1 b2 ab t ⟨n, l, s, x, q, 1, key, en0, bg, ma, so, sl, sc, ro, rl, rc, ak, some ⟨pb, 0, none⟩, pl, pc⟩ xs B eo en ec 0) := HI.out.1.keep HF1.out
      obtain ⟨d5, _⟩ := HS.out _ _ _ _ _ _ HI1.out
      obtain ⟨⟨_, _, a2, _, _⟩, z2, _, _⟩ := HI1.out.ca
      obtain ⟨_, _, f2, _, _⟩ := rp_cells HBx.out
      have hen : en ≤ i := HI.out.2.2.2.1
      have hO1 := owns_keepB HI.out.2.2.2.2 HF1.out (by simp)
      have HFs : Hid (∀ b : Bool, Fr [ab] W1 (W1.setCell ⟨ab, 2, none⟩ (.bool b))) := fun b => Fr.set _ _ _ (by simp)
      have HPt : Hid (∀ b : Bool, Ai w (W1.setCell ⟨ab, 2, none⟩ (.bool b)) b2 ab t ⟨n, l, s, x, q, 1, key, en0, bg, ma, so, sl, sc, ro, rl, rc, ak, some ⟨pb, 0, none⟩, pl, pc⟩ xs b eo en ec 0) := fun b => HI1.out.put HX.out (HFs.out b) (by rw [row_put17 _ HI1.out.ra]; rfl)
      have HOb : Hid (∀ b : Bool, (W1.setCell ⟨ab, 2, none⟩ (.bool b)).ownsRow w.heap.size 85 2 (.slice eo en ec) en (eysC (ansE 1 (xs.take i)))) := fun b => owns_keepT hO1 (HFs.out b) (fun k hk2 cur hc => by
        rw [List.mem_singleton.1 hk2, HI1.out.ra] at hc
        simp only [Option.some.injEq, Obj.cells.injEq] at hc
        exact absurd hc.2.1 (by decide))
      have HBxb : Hid (∀ b : Bool, (W1.setCell ⟨ab, 2, none⟩ (.bool b)).heap[bx]? = some (.cells #[.int .i64 rto, .bool rok, .slice reo rel rec_, .slice rho rhl rhc, .int .i64 rct] 46 (0, 0))) := fun b => (HFs.out b).keep HBx.out (fun hm => by
        have h := HBx.out
        rw [List.mem_singleton.1 hm, HI1.out.ra] at h
        simp only [Option.some.injEq, Obj.cells.injEq] at h
        exact absurd h.2.1 (by decide))
      have hel : rel = res_.length := HRx.out.le
      have hme : rel ≤ 4194304 := HRx.out.me
      have HRe : Hid (∀ V, Fr [] w V → RrE V reo res_) := fun V hf => HRx.out.re.keep hf
      have HEn : Hid (en = (ansE 1 (xs.take i)).length) := HI.out.2.2.1
      by_cases h1 : rel = 1
      · have hres : res_.length = 1 := by omega
        subst h1
        obtain ⟨⟨yk, yv⟩, rfl⟩ : ∃ y, res_ = [y] := List.length_eq_one_iff.1 hres
        have HEq : Hid (ansE 1 (xs.take (i + 1)) = ansE 1 (xs.take i) ++ [⟨yk, yv⟩] ∧ true = ansB 1 (xs.take (i + 1))) := by
          refine ⟨?_, ?_⟩ <;> rw [HTk.out] <;> simp [ansE, ansB]
        clear hel hres HTk HRx hO1 HI1 HI HBx HF1 HBl
        go_upto_region 14 with fail
        obtain ⟨W2, HW2⟩ : ∃ W2, Hid (W1.setCell ⟨ab, 2, none⟩ (.bool true) = W2) := ⟨_, rfl⟩
        have HI2 : Hid (Ai w W2 b2 ab t ⟨n, l, s, x, q, 1, key, en0, bg, ma, so, sl, sc, ro, rl, rc, ak, some ⟨pb, 0, none⟩, pl, pc⟩ xs true eo en ec 0) := by have h := HPt.out true; rw [HW2.out] at h; exact h
        have HO2 : Hid (W2.ownsRow w.heap.size 85 2 (.slice eo en ec) en (eysC (ansE 1 (xs.take i)))) := by have h := HOb.out true; rw [HW2.out] at h; exact h
        have HB2 : Hid (W2.heap[bx]? = some (.cells #[.int .i64 rto, .bool rok, .slice reo 1 rec_, .slice rho rhl rhc, .int .i64 rct] 46 (0, 0))) := by have h := HBxb.out true; rw [HW2.out] at h; exact h
        rw [HW2.out]
        clear HPt HOb HBxb HFs a2 z2 f2 HW2
        obtain ⟨⟨_, _, a2, a3, _⟩, _, _, _⟩ := HI2.out.ca
        obtain ⟨_, _, f2, _, _⟩ := rp_cells HB2.out
        obtain ⟨eb, eoff, rfl, _, l0, l1⟩ := RrE_at (HRe.out _ HI2.out.fr) 0 (by simp)
        simp only [Nat.zero_mul, Nat.add_zero] at l0 l1
        have l0' : W2.cell? ⟨eb, eoff, none⟩ = some (.string yk) := l0
        have l1' : W2.cell? ⟨eb, eoff + 1, none⟩ = some (.string yv) := l1
        have HA1 : Hid (A1 w W2 b2 ab t ⟨n, l, s, x, q, 1, key, en0, bg, ma, so, sl, sc, ro, rl, rc, ak, some ⟨pb, 0, none⟩, pl, pc⟩ xs eo en ec (ansE 1 (xs.take i)) ⟨yk, yv⟩) := A1.of HI2.out HX.out HO2.out
        obtain ⟨i0, hi0, hz0, hz1, hz2⟩ := infoKE_parts
        have ka : (W2.alloc (.cells #[.string yk, .string yv] 85)).cell? ⟨ab, 3, none⟩ = some (.slice eo en ec) := (HI2.out.keep (Fr.alloc [] _ _)).ca.1.2.2.2.1
        clear l0 l1 HI2 HO2 HB2 HRe
        go_upto_region 15 with fail
        clear a2 d5
        go_region_law (first
          | (refine step_own _ (by rfl) _ _ 43 85 (by rfl) i0 (.agg #[.string ⟨#[]⟩, .string ⟨#[]⟩]) 2 32 Try.undKE hi0 hz0 hz1 hz2 rfl (by decide) eo en ec _ (by rfl) HA1.out.row ⟨W2.heap.size, 0, none⟩ 1 (eyC ⟨yk, yv⟩) rfl (by rfl) HA1.out.nw (oneE _) (by omega) (by omega) ?_; intro eo' c' w3 g1 g2 g3; obtain ⟨⟨j0, j1⟩, HR4⟩ := HA1.out.fin eo' c' w3 g1 g2 g3))
        all_goals
          have HN : Hid (Ai w (w3.setCell ⟨ab, 3, none⟩ (.slice eo' (en + 1) c')) b2 ab t ⟨n, l, s, x, q, 1, key, en0, bg, ma, so, sl, sc, ro, rl, rc, ak, some ⟨pb, 0, none⟩, pl, pc⟩ xs true eo' (en + 1) c' 0 ∧ true = ansB 1 (xs.take (i + 1)) ∧ en + 1 = (ansE 1 (xs.take (i + 1))).length ∧ en + 1 ≤ i + 1 ∧ (w3.setCell ⟨ab, 3, none⟩ (.slice eo' (en + 1) c')).ownsRow w.heap.size 85 2 (.slice eo' (en + 1) c') (en + 1) (eysC (ansE 1 (xs.take (i + 1))))) := ⟨HR4.out.1, HEq.out.2, by rw [HEq.out.1, List.length_append, ← HEn.out]; rfl, by omega, by rw [HEq.out.1]; exact HR4.out.2⟩
          clear HR4 HA1 j0 j1 g1 g2 g3 l0' l1' f2 a3 ka HEq HEn
          go_wp2
          go_roundw
          case rel => exact ⟨i + 1, true, eo', en + 1, c', rfl, by simp, by omega, HN⟩
          case measure => simp [RowKit.intOf]; omega
      · have hr1 : (((rel : Nat) : Int) == 1) = false := by rw [beq_eq_false_iff_ne]; omega
        have HEq : Hid (ansE 1 (xs.take (i + 1)) = ansE 1 (xs.take i) ∧ false = ansB 1 (xs.take (i + 1))) := by
          have hne : ¬ res_.length = 1 := by omega
          refine ⟨?_, ?_⟩ <;> rw [HTk.out] <;> simp [ansE, ansB, hne]
        have HN : Hid (Ai w (W1.setCell ⟨ab, 2, none⟩ (.bool false)) b2 ab t ⟨n, l, s, x, q, 1, key, en0, bg, ma, so, sl, sc, ro, rl, rc, ak, some ⟨pb, 0, none⟩, pl, pc⟩ xs false eo en ec 0 ∧ false = ansB 1 (xs.take (i + 1)) ∧ en = (ansE 1 (xs.take (i + 1))).length ∧ en ≤ i + 1 ∧ (W1.setCell ⟨ab, 2, none⟩ (.bool false)).ownsRow w.heap.size 85 2 (.slice eo en ec) en (eysC (ansE 1 (xs.take (i + 1))))) := ⟨HPt.out false, HEq.out.2, by rw [HEq.out.1]; exact HEn.out, by omega, by rw [HEq.out.1]; exact HOb.out false⟩
        clear HEq HEn HRe HPt HOb HBxb HFs hel h1 HTk HRx hO1 HI1 HI HBx HF1 HBl
        go_upto_region 14 with fail
        obtain ⟨W2, HW2⟩ : ∃ W2, Hid (W1.setCell ⟨ab, 2, none⟩ (.bool false) = W2) := ⟨_, rfl⟩
        rw [HW2.out] at HN ⊢
        clear HW2 a2 z2 f2
        obtain ⟨⟨_, _, a2, _, _⟩, _⟩ := HN.out.1.ca
        go_wp2
        go_roundw
        case rel => exact ⟨i + 1, false, eo, en, ec, rfl, by simp, by omega, HN⟩
        case measure => simp [RowKit.intOf]; omega
    · have hge : ¬ ((i : Int) < (pl : Int)) := by omega
      have HTk : Hid (xs.take i = xs) := List.take_of_length_le (by have := HPl.out; omega)
      obtain ⟨⟨a0, a1, a2, a3, a4⟩, _⟩ := HI.out.1.ca
      obtain ⟨⟨e0, e1, e2, e3, e4⟩, z0, z1, z2, z3, z4⟩ := HI.out.1.cb
      obtain ⟨o1, o2, o3⟩ := HI.out.1.out
      have HO : Hid (_ ∧ _ ∧ _) := ⟨o1, o2, o3⟩
      have hne1 := HI.out.1.ne
      have hne2 := fun e => hne1 (Eq.symm e)
      simp only at a1
      clear o1 o2 o3 d5
      have HE : Hid (B = ansB 1 xs ∧ en = (ansE 1 xs).length ∧ wr.ownsRow w.heap.size 85 2 (.slice eo en ec) en (eysC (ansE 1 xs)) ∧ Fr [] w wr ∧ wr.heap[b2]? = some (.cells (ansA 0 0 false none 0 0 0) 72 (0, 0))) := by have h := HI.out.2; rw [HTk.out] at h; exact ⟨h.1, h.2.1, h.2.2.2, HI.out.1.fr, HI.out.1.r2⟩
      clear HI HTk
      go_wp2
      refine bodyPost_ret (results_ctt17 rfl _ _ _ b2 _ rfl (load_ans HO.out.1)) rfl ?_
      obtain ⟨e0, e1, e2, e3, e4⟩ := HE.out
      subst e0 e1
      have hO := owns_keepT e2 HO.out.2.1 (fun k hk cur hc => by
        rw [List.mem_singleton.1 hk, e4] at hc
        simp only [Option.some.injEq, Obj.cells.injEq] at hc
        exact absurd hc.2.1 (by decide))
      exact ⟨eo, ec, none, 0, rfl, RrE.of_own hO rfl, ⟨RrH.nil _ _, by simp [ansH]⟩, HO.out.2.2⟩
end Go.Proofs.Ytpdkdgmaofhlkaa
