/- A saver is made: contract of New. Conditions: a disk that is there; what is said is of bulk at most 1048576. -/
import Derived.Test.YtdojhkgnnbdfkaaGreatSf19
import Derived.Test.YtdojhkgnnbdfkaaGreatTe18
namespace Go.Proofs.YtdojhkgnnbdfkaaGreat
open BigFrame Go.ChangeShapes Go.WideShapes Go.ChangeAt Go.RowKit Go.Lib Go.Maps
set_option linter.unusedVariables false
set_option linter.unusedSimpArgs false

theorem Wh.ex (ys : List Nat) : ∃ ok g m bs ps, Wh ys ok g m bs ps := by
  by_cases h : ∃ g xs m bs ps, Good ys g xs ∧ AnsD xs 0 m bs ps
  · obtain ⟨g, xs, m, bs, ps, h1, h2⟩ := h
    exact ⟨true, g, m, bs, ps, Wh.ok h1 h2⟩
  · exact ⟨false, 0, 0, [], [], Or.inr ⟨rfl, rfl, rfl, rfl, rfl, fun g xs m bs ps h1 h2 => h ⟨g, xs, m, bs, ps, h1, h2⟩⟩⟩
theorem Nw.ex (s0 s1 : List Nat) : ∃ ok g i m bs ps, Nw s0 s1 ok g i m bs ps := by
  obtain ⟨o0, g0, m0, b0, p0, h0⟩ := Wh.ex s0
  obtain ⟨o1, g1, m1, b1, p1, h1⟩ := Wh.ex s1
  by_cases h : g0 < g1
  · exact ⟨o1, g1, 1, m1, b1, p1, Or.inr ⟨rfl, h1, _, _, _, _, _, h0, h⟩⟩
  · exact ⟨o0, g0, 0, m0, b0, p0, Or.inl ⟨rfl, h0, _, _, _, _, _, h1, by omega⟩⟩
theorem fm_lt {α : Type} (f : α → List Nat) (l : List α) (h : ∀ a ∈ l, ∀ x ∈ f a, x < 256) : ∀ x ∈ l.flatMap f, x < 256 := fun x hx => by
  obtain ⟨a, ha, hxa⟩ := List.mem_flatMap.1 hx
  exact h a ha x hxa
theorem app_lt {a b : List Nat} (ha : ∀ x ∈ a, x < 256) (hb : ∀ x ∈ b, x < 256) : ∀ x ∈ a ++ b, x < 256 := fun x hx => by
  rcases List.mem_append.1 hx with h | h
  · exact ha x h
  · exact hb x h
theorem encX_lt19 (v : Vn) : ∀ x ∈ encX v, x < 256 := by
  refine app_lt (enc_lt _) ?_
  unfold encV
  split
  · intro x hx; simp at hx; omega
  · intro x hx
    rcases List.mem_cons.1 hx with h | h
    · omega
    · exact encS_lt _ x h
theorem encD_lt (m : Int) (bs : List Int) (ps : List Kv) : ∀ x ∈ encD m bs ps, x < 256 :=
  app_lt (enc_lt _) (app_lt (enc_lt _) (app_lt (fm_lt _ _ fun a _ => enc_lt _) (app_lt (enc_lt _) (fm_lt _ _ fun p _ => app_lt (encS_lt _) (app_lt (enc_lt _) (fm_lt _ _ fun v _ => encX_lt19 v))))))
/-- Which refusal New answers. -/
def newE (C g c n : Nat) : Int := if c ≠ 0 then 1 else if g = 4611686018427387904 then 3 else if C < 20 + n then 13 else 0
/-- A checkpoint's bytes. -/
def ckB (g : Nat) (ys : List Nat) : List Nat := hdB (g + 1) ys ++ ys
theorem ckB_length (g : Nat) (ys : List Nat) : (ckB g ys).length = 20 + ys.length := by simp [ckB, hdB_length]
theorem wpList_appR {P : Program} {w w' : World} {ops : Array Oper} {rest : List Oper} {o : Oper} {a : Act} {Q : Exit → Act → World → Prop} (hgd : o.guard = none) (s x : Operand) (t : TypeId)
    (ho : o.op = .call { callee := .builtin .append, args := #[s, x], argTypes := #[t, t] }) (v u r : Value) (hs : a.eval s = v) (hx : a.eval x = u) (hr : (Builtin.append_ #[t, t] o.type #[v, u]).run P w = .ok r w') (h : wpList P ops Q rest (a.put o.dst r) w') : wpList P ops Q (o :: rest) a w := by
  refine wpList_plain hgd fun K hK => ?_
  unfold Oper.wp execOp
  simp only [ho, resolve, invoke, builtin, Sem.run_bind, Sem.run_pure, Result.andThen_ok, List.map_toArray, List.map_cons, List.map_nil, hs, hx, hr]
  exact hK _ _ h
theorem head_app {w : World} {H N c1 : Nat} {a1 : Option Addr} {hd ys : List Nat} (ty : TypeId) (hH : w.heap[H]? = some (.cells (bts hd).toArray 106 (0, 0))) (hl : hd.length = 20) (hO : w.ownsRow 0 5 1 (.slice a1 N c1) N (bts ys)) (h0 : 0 < N) (hN : N < 2^30) :
    ∃ ac w', (Builtin.append_ #[76, 76] ty #[.slice (some ⟨H, 0, none⟩) 20 20, .slice a1 N c1]).run Tryz.prog w = .ok (.slice (some ⟨w.heap.size, 0, none⟩) (20 + N) ac) w' ∧ w'.ownsRow 0 5 1 (.slice (some ⟨w.heap.size, 0, none⟩) (20 + N) ac) (20 + N) (bts (hd ++ ys)) ∧ Fr [] w w' ∧ 20 + N ≤ ac := by
  obtain ⟨i0, hi, hz0, hz1, hz2⟩ := info_parts Tryz.infoB
  obtain ⟨g, c, e, hgc⟩ := own_form hO h0
  cases e
  have holds : ∀ j v, (bts hd)[j]? = some v → w.cell? ((⟨H, 0, none⟩ : Addr).add j) = some v := fun j v hj => by
    rw [Addr.add_lit, Nat.zero_add, cell_of_row _ _ _ _ _ _ hH]
    simpa using hj
  have hnews : ∀ j v, (bts ys)[j]? = some v → w.cell? ((⟨g, 0, none⟩ : Addr).add j) = some v := hO.cells (g := g) rfl
  have hbl : (bts ys).length = N := by have := hO.1; simpa using this
  have hA := run_append_grow (P := Tryz.prog) w 76 ty 5 i0 _ Tryz.undBs hi hz0 ⟨H, 0, none⟩ 20 20 (bts hd) (by rw [hz1, bts_length, hl]) holds ⟨g, 0, none⟩ N c1 (bts ys) (by rw [hz1, hbl, Nat.mul_one]) hnews (by omega) (by omega) (growslice_fits (by omega) (by rw [hz2]; omega))
  have hGn : 20 + N ≤ grownCap w (20 + N) 20 5 := grownCap_ge w _ _ _
  have hGm := grownCap_le_maxLen w (20 + N) 20 5 (by unfold maxLen; omega)
  refine ⟨_, _, hA, ?_, ?_, hGn⟩
  · have el : (bts (hd ++ ys)).length = (20 + N) * 1 := by rw [bts_append, List.length_append, bts_length, hl, hbl]; omega
    refine ⟨el, .inr ⟨w.heap.size, _, _, rfl, Nat.zero_le _, heap_alloc_new w.drew _, hGn, hGm, ?_, ?_⟩⟩
    · have hyl : ys.length = N := by rw [← bts_length ys]; exact hbl
      simp only [Array.size_append, size_zeroCells, List.size_toArray, bts_length, hl, hyl]
      simp [Value.cells]
      omega
    · rw [Array.toList_append, Array.toList_append, List.take_append_of_le_length (by simp [bts_length, hl]; rw [← bts_length ys, hbl]; omega), List.take_of_length_le (by simp [bts_length, hl]; rw [← bts_length ys, hbl]; omega), bts_append]
  · exact (Fr.drew [] w).then (Fr.alloc [] _ _)
/-- What New answers. -/
def SnP (d C g i c : Nat) (ok : Bool) (ys : List Nat) (w : World) (e : Ending) (w' : World) : Prop :=
  (newE C g c ys.length ≠ 0 ∧ e = .returned (.tuple #[.pointer none, .int .i64 (newE C g c ys.length)]) ∧ Fr [] w w') ∨
  (newE C g c ys.length = 0 ∧ ∃ sb fb ab fc ac, e = .returned (.tuple #[.pointer (some ⟨sb, 0, none⟩), .int .i64 0]) ∧ SaM w' sb d fb ab (some ⟨fb, 0, none⟩) fc ac (besN i ok) (ckB g ys) 0 ∧ w.heap.size ≤ sb ∧ w.heap.size ≤ fb ∧ w.heap.size ≤ ab ∧ Fr [] w w')
theorem besN_le (i : Nat) (ok : Bool) : besN i ok ≤ 1 := by unfold besN; split <;> omega
theorem sa_new {w6 w7 : World} {d slot Z N ac fb fc : Nat} {zs : List Nat} (hO : w6.ownsRow 0 5 1 (.slice (some ⟨Z, 0, none⟩) N ac) N (bts zs)) (hN : N = zs.length) (hl : ∀ x ∈ zs, x < 256) (hf : N ≤ 16777216) (hs : slot ≤ 1) (hR : w7.ownsRow w6.heap.size 135 1 (.slice (some ⟨fb, 0, none⟩) (nB N + 1) fc) (nB N + 1) (rawsV d slot Z ac N (nB N))) (hF : Fr [] w6 w7) :
    SaM (w7.alloc (.cells #[.bool true, .slice (some ⟨fb, 0, none⟩) (nB N + 1) fc] 112)) w7.heap.size d fb Z (some ⟨fb, 0, none⟩) fc ac slot zs 0 := by
  subst hN
  have hFa : Fr [] w7 (w7.alloc (.cells #[.bool true, .slice (some ⟨fb, 0, none⟩) (nB zs.length + 1) fc] 112)) := Fr.alloc [] _ _
  rcases hR.2 with ⟨hh, _⟩ | ⟨g, cap, cur, hh, _, hg, hc, _, hs1, ht⟩
  · cases hh
  · cases hh
    refine ⟨heap_alloc_new w7 _, by omega, ⟨cur, hFa.keep hg (by simp), fun j v hj => ?_⟩, fun _ => rfl, hc, owns_keep (owns_keep hO hF (by simp)) hFa (by simp), hl, hf, hs⟩
    have hjl := (List.getElem?_eq_some_iff.1 hj).1
    rw [rawsV_length] at hjl
    rw [← ht, List.getElem?_take_of_lt (by omega)] at hj
    rw [← Array.getElem?_toList]
    exact hj
set_option maxHeartbeats 8000000 in
set_option maxRecDepth 100000 in
theorem snew_any {w0 w : World} {d : Nat} {S : List Nat} {t : Sk} (h : LD w0 w d S t) {ok : Bool} {g i : Nat} {mN : Int} {bN : List Int} {pN : List Kv} (hN : Nw t.s0 t.s1 ok g i mN bN pN)
    (m : Int) (bo ho : Option Addr) (Lb cb Lh ch c : Nat) (bs : List Int) (hs : List Hd) (ps : List Kv) (ys : List Nat) (hI : IRs w bo bs) (hLb : Lb = bs.length) (hH : HRs w ho hs) (hLh : Lh = hs.length) (hp : hs.map Hd.kv = ps) (hT : ToldD m bs ps c ys) (hz : bs.length + szKs ps ≤ 1048576) :
    Calls Tryz.prog 29 #[.pointer (some ⟨d, 0, none⟩), .agg #[.int .i64 m, .slice bo Lb cb, .slice ho Lh ch]] w fun e w' => SnP d t.C g i c ok ys w e w' := by
  obtain ⟨w1, HW1⟩ : ∃ w1, Hid (w.alloc (.cells #[.int .i64 m, .slice bo Lb cb, .slice ho Lh ch] 27) = w1) := ⟨_, rfl⟩
  have hF1 : Fr [] w w1 := by rw [← HW1.out]; exact Fr.alloc [] w _
  have hb1 : w1.heap[w.heap.size]? = some (.cells #[.int .i64 m, .slice bo Lb cb, .slice ho Lh ch] 27 (0, 0)) := by rw [← HW1.out]; exact heap_alloc_new w _
  obtain ⟨A, hA⟩ : ∃ A, A = w.heap.size := ⟨_, rfl⟩
  rw [← hA] at hb1
  have HBx : Hid (∀ W, Fr [] w1 W → W.cell? ⟨A, 0, none⟩ = some (.int .i64 m) ∧ W.cell? ⟨A, 1, none⟩ = some (.slice bo Lb cb) ∧ W.cell? ⟨A, 2, none⟩ = some (.slice ho Lh ch)) := fun W hf => sv_cells (hf.keep hb1 (by simp))
  have HH : Hid (∀ W, Fr [] w1 W → HRs W ho hs ∧ IRs W bo bs) := fun W hf => ⟨hH.keep (hF1.then hf), hI.keep (hF1.then hf)⟩
  have HLD : Hid (∀ W, Fr [] w1 W → LD w0 W d S t) := fun W hf => h.quiet (hF1.then hf)
  have HL : Hid (Lb = bs.length ∧ Lh = hs.length ∧ hs.map Hd.kv = ps) := ⟨hLb, hLh, hp⟩
  have HT : Hid (ToldD m bs ps c ys ∧ bs.length + szKs ps ≤ 1048576) := ⟨hT, hz⟩
  have hyl := hT.len hz
  have HN : Hid (Nw t.s0 t.s1 ok g i mN bN pN) := hN
  have HF1 : Hid (Fr [] w w1) := hF1
  have hC : t.C ≤ 16777216 := h.ok.cap
  have hgi := hN.slot
  have HNe : Hid (Calls _ _ _ _ _) := newest_any (h.quiet hF1)
  obtain ⟨N, hNy⟩ : ∃ N, N = ys.length := ⟨_, rfl⟩
  have HNy : Hid (N = ys.length) := hNy
  rw [← hNy] at hyl
  have hg62 : g ≤ 4611686018427387904 := hgi.2.1
  have hi1 : i ≤ 1 := by rcases hgi.1 with q | q <;> omega
  clear h hN hI hLb hH hLh hp hT hz hb1 hF1 hgi hNy
  go_enter Tryz.func29, Tryz.ntmps29
  go_upto_region 1 with fail
  rw [HW1.out, ← hA]
  clear HW1 hA
  go_wp2_with fail
  refine Calls.mono HNe.out ?_
  rintro e w2 ⟨ok2, g2, i2, m2, bo2, Lb2, cb2, ho2, Lh2, ch2, bs2, hs2, rfl, hN2, hSv2, hF2⟩
  obtain ⟨e1, e2, e3, -, -, -⟩ := hN2.uniq HN.out
  subst e1
  subst e2
  subst e3
  obtain ⟨w3, HW3⟩ : ∃ w3, Hid (w2.alloc (.cells #[.int .i64 m2, .slice bo2 Lb2 cb2, .slice ho2 Lh2 ch2] 27) = w3) := ⟨_, rfl⟩
  have hF3 : Fr [] w2 w3 := by rw [← HW3.out]; exact Fr.alloc [] w2 _
  have HF3 : Hid (Fr [] w1 w3) := hF2.then hF3
  have HEn : Hid (Calls _ _ _ _ _) := dencode_gen m bo ho Lb cb Lh ch c N bs hs ps ys w3 (HH.out _ HF3.out).2 HL.out.1 (HH.out _ HF3.out).1 HL.out.2.1 HL.out.2.2 HT.out.1 HNy.out HT.out.2
  obtain ⟨k0, k1, k2⟩ := HBx.out _ HF3.out
  clear HNe hN2 hSv2 hF2 hF3
  go_upto_region 2 with fail
  rw [HW3.out]
  clear HW3
  go_wp2_with fail
  refine Calls.mono HEn.out ?_
  rintro e w4 ⟨a1, c1, rfl, hO1, hn1, hF4⟩
  have HF4 : Hid (Fr [] w1 w4) := HF3.out.then hF4
  have HO1 : Hid (w4.ownsRow 0 5 1 (.slice a1 N c1) N (bts ys) ∧ ∀ k, (Value.slice a1 N c1).ownBlock = some k → w3.heap.size ≤ k) := ⟨hO1, hn1⟩
  clear HEn hO1 hn1 hF4 k0 k1 k2
  by_cases hc : c = 0
  · subst hc
    by_cases hg : g2 = 4611686018427387904
    · have hge : ((g2 : Int) == 4611686018427387904) = true := by simp; omega
      have HR : Hid (SnP d t.C g2 i2 0 ok2 ys w (.returned (.tuple #[.pointer none, .int .i64 3])) w4) := Or.inl ⟨by simp [newE, hg], by simp [newE, hg], HF1.out.then HF4.out⟩
      clear hg
      go_wp2
      go_ret2
      exact HR.out
    · have hge : ((g2 : Int) == 4611686018427387904) = false := by simp; omega
      obtain ⟨C, HC⟩ : ∃ C, Hid (t.C = C) := ⟨_, rfl⟩
      rw [HC.out] at hC
      have HCa : Hid (Calls _ _ _ _ _) := ld_capacity (HLD.out _ HF4.out) HC.out
      go_wp2_with fail
      refine Calls.mono HCa.out ?_
      rintro e w5 ⟨rfl, rfl⟩
      clear HCa
      by_cases hsp : C < 20 + N
      · have hsp' : (C : Int) < 20 + (N : Int) := by omega
        have HR : Hid (SnP d t.C g2 i2 0 ok2 ys w (.returned (.tuple #[.pointer none, .int .i64 13])) w4) := by
          have e9 : newE t.C g2 0 ys.length = 13 := by
            have := HNy.out
            unfold newE
            rw [if_neg (by simp), if_neg hg, if_pos (by rw [HC.out]; omega)]
          exact Or.inl ⟨by rw [e9]; decide, by rw [e9], HF1.out.then HF4.out⟩
        go_wp2
        go_ret2
        exact HR.out
      · have hsp' : ¬ (C : Int) < 20 + (N : Int) := by omega
        have hyok : OkS m bs ps ∧ ys = encD m bs ps := by
          rcases HT.out.1 with ⟨q1, _, q2⟩ | ⟨_, q, _⟩
          · exact ⟨q1, q2⟩
          · cases q
        have hN3 : 3 ≤ N := by rw [HNy.out, hyok.2]; exact (encD_length m bs ps).1
        have hylow : ∀ x ∈ ys, x < 256 := by rw [hyok.2]; exact encD_lt m bs ps
        have hA4 : BArg w4 a1 N c1 ys := own_arg HO1.out.1 hylow (by omega)
        obtain ⟨HV, HHV⟩ : ∃ HV : Array Value, Hid (HV = (bts (hdB (g2 + 1) ys)).toArray) := ⟨_, rfl⟩
        have hHo := headOf_any (g2 + 1) a1 N c1 ys w4 hA4 (by omega)
        rw [show ((g2 + 1 : Nat) : Int) = (g2 : Int) + 1 from by omega, ← HHV.out] at hHo
        have HHo : Hid (Calls _ _ _ _ _) := hHo
        clear hHo hA4 hyok
        go_wp2_with fail
        refine Calls.mono HHo.out ?_
        rintro e w5 ⟨rfl, hF5⟩
        have hV20 : HV.size = 20 := by rw [HHV.out]; simp [bts_length, hdB_length]
        have hi20 : (Tryz.prog.info? 106).map (·.size) = some HV.size := by rw [hV20]; exact Tryz.infoHead
        have hO20 : (#[.int .u8 0, .int .u8 0, .int .u8 0, .int .u8 0, .int .u8 0, .int .u8 0, .int .u8 0, .int .u8 0, .int .u8 0, .int .u8 0, .int .u8 0, .int .u8 0, .int .u8 0, .int .u8 0, .int .u8 0, .int .u8 0, .int .u8 0, .int .u8 0, .int .u8 0, .int .u8 0] : Array Value).size = HV.size := by rw [hV20]; rfl
        have hone : HV.all (·.oneCell') = true := by
          rw [HHV.out, List.all_toArray, List.all_eq_true]
          intro u hu
          obtain ⟨_, _, rfl⟩ := List.mem_map.1 hu
          rfl
        have hz5 : (w5.alloc (.cells #[.int .u8 0, .int .u8 0, .int .u8 0, .int .u8 0, .int .u8 0, .int .u8 0, .int .u8 0, .int .u8 0, .int .u8 0, .int .u8 0, .int .u8 0, .int .u8 0, .int .u8 0, .int .u8 0, .int .u8 0, .int .u8 0, .int .u8 0, .int .u8 0, .int .u8 0, .int .u8 0] 106)).heap[w5.heap.size]? = some (.cells #[.int .u8 0, .int .u8 0, .int .u8 0, .int .u8 0, .int .u8 0, .int .u8 0, .int .u8 0, .int .u8 0, .int .u8 0, .int .u8 0, .int .u8 0, .int .u8 0, .int .u8 0, .int .u8 0, .int .u8 0, .int .u8 0, .int .u8 0, .int .u8 0, .int .u8 0, .int .u8 0] 106 (0, 0)) := heap_alloc_new w5 _
        obtain ⟨w6, HW6⟩ : ∃ w6, Hid ((w5.alloc (.cells #[.int .u8 0, .int .u8 0, .int .u8 0, .int .u8 0, .int .u8 0, .int .u8 0, .int .u8 0, .int .u8 0, .int .u8 0, .int .u8 0, .int .u8 0, .int .u8 0, .int .u8 0, .int .u8 0, .int .u8 0, .int .u8 0, .int .u8 0, .int .u8 0, .int .u8 0, .int .u8 0] 106)).setRow w5.heap.size HV = w6) := ⟨_, rfl⟩
        obtain ⟨Hh, hHh⟩ : ∃ Hh, Hh = w5.heap.size := ⟨_, rfl⟩
        have hF56 : Fr [] w5 w6 := by rw [← HW6.out]; exact (Fr.alloc [] w5 _).on (Fr.setRow _ _ _) (fun j hj => by simp at hj; omega)
        have hrow6 : w6.heap[Hh]? = some (.cells (bts (hdB (g2 + 1) ys)).toArray 106 (0, 0)) := by rw [← HW6.out, hHh, ← HHV.out]; exact setRow_heap _ _ _ _ 106 _ hz5
        have hO6 := owns_keep HO1.out.1 (hF5.then hF56) (by simp)
        obtain ⟨ac, w7, hr7, hO7, hF7, hac⟩ := head_app (ys := ys) 76 hrow6 (hdB_length _ _) hO6 (by omega) (by omega)
        obtain ⟨Z, hZ⟩ : ∃ Z, Z = w6.heap.size := ⟨_, rfl⟩
        rw [← hZ] at hr7 hO7
        have HF17 : Hid (Fr [] w1 w7) := HF4.out.then (hF5.then (hF56.then hF7))
        have hz1 : w.heap.size ≤ Z := by rw [hZ]; exact (HF1.out.then (HF4.out.then (hF5.then hF56))).size
        have HO7 : Hid (w7.ownsRow 0 5 1 (.slice (some ⟨Z, 0, none⟩) (20 + N) ac) (20 + N) (bts (ckB g2 ys)) ∧ w.heap.size ≤ Z) := ⟨hO7, hz1⟩
        have HCl : Hid (∀ x ∈ ckB g2 ys, x < 256) := app_lt (hdB_lt _ _) hylow
        have HBs : Hid (Calls _ _ _ _ _) := beside_any i2 ok2 w7 hi1
        have HRw : Hid (Calls _ _ _ _ _) := raws_any d (besN i2 ok2) Z (20 + N) ac w7 (by omega) hac (besN_le _ _)
        clear hF5 hF56 hrow6 hO6 hO7 hF7 hZ hV20 hylow hz1
        go_upto_region 12 with (refine wpList_store_row rfl 106 _ _ rfl w5.heap.size HV rfl rfl 106 #[.int .u8 0, .int .u8 0, .int .u8 0, .int .u8 0, .int .u8 0, .int .u8 0, .int .u8 0, .int .u8 0, .int .u8 0, .int .u8 0, .int .u8 0, .int .u8 0, .int .u8 0, .int .u8 0, .int .u8 0, .int .u8 0, .int .u8 0, .int .u8 0, .int .u8 0, .int .u8 0] hz5 hi20 hO20 hone ?_)
        rw [HW6.out, ← hHh]
        clear HW6 hHh hz5 hO20 hone hi20
        go_upto_region 13 with (first | (at_builtin; refine wpList_appR rfl (.tmp 49) (.tmp 50) 76 rfl _ _ _ rfl rfl hr7 ?_))
        clear hr7
        go_wp2_with fail
        refine Calls.mono HBs.out ?_
        rintro e w8 ⟨rfl, rfl⟩
        clear HBs
        obtain ⟨sl, HSl⟩ : ∃ sl, Hid (besN i2 ok2 = sl) := ⟨_, rfl⟩
        rw [HSl.out] at HRw ⊢
        go_wp2_with fail
        refine Calls.mono HRw.out ?_
        rintro e w9 ⟨fb, fc, rfl, hR9, hF9⟩
        have HR : Hid (SnP d t.C g2 i2 0 ok2 ys w (.returned (.tuple #[.pointer (some ⟨w9.heap.size, 0, none⟩), .int .i64 0])) (w9.alloc (.cells #[.bool true, .slice (some ⟨fb, 0, none⟩) (nB (20 + N) + 1) fc] 112))) := by
          have e9 : newE t.C g2 0 ys.length = 0 := by
            have := HNy.out
            unfold newE
            rw [if_neg (by simp), if_neg hg, if_neg (by rw [HC.out]; omega)]
          have hfb : w7.heap.size ≤ fb := by
            rcases hR9.2 with ⟨hh, _⟩ | ⟨q, cap, cur, hh, hb, _⟩
            · cases hh
            · cases hh; exact hb
          have hsz : w.heap.size ≤ w7.heap.size := (HF1.out.then HF17.out).size
          refine Or.inr ⟨e9, w9.heap.size, fb, Z, fc, ac, rfl, ?_, Nat.le_trans hsz hF9.size, by omega, HO7.out.2, HF1.out.then (HF17.out.then (hF9.then (Fr.alloc [] _ _)))⟩
          rw [HSl.out]
          exact sa_new HO7.out.1 (by rw [ckB_length, ← HNy.out]) HCl.out (by omega) (by rw [← HSl.out]; exact besN_le _ _) hR9 hF9
        clear hR9 hF9 HRw
        go_wp2
        go_ret2
        exact HR.out
  · have hce : ((c : Int) != 0) = true := by simp; omega
    have HR : Hid (SnP d t.C g2 i2 c ok2 ys w (.returned (.tuple #[.pointer none, .int .i64 (c : Int)])) w4) := by
      have e9 : newE t.C g2 c ys.length = 1 := by unfold newE; rw [if_pos hc]
      have ec : c = 1 := by
        rcases HT.out.1 with ⟨_, q, _⟩ | ⟨_, q, _⟩
        · exact absurd q hc
        · exact q
      exact Or.inl ⟨by rw [e9]; decide, by rw [e9, ec]; rfl, HF1.out.then HF4.out⟩
    clear hc
    go_wp2
    go_ret2
    exact HR.out
end Go.Proofs.YtdojhkgnnbdfkaaGreat
