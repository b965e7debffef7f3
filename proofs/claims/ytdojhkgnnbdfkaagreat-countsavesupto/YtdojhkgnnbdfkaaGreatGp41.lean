/- Texts of this claim laid together, one behind the other: contracts and plain lemmas; conditions as each names them. -/
import Derived.Test.YtdojhkgnnbdfkaaGreatGp40
import Derived.Test.YtdojhkgnnbdfkaaGreatGp30
import Derived.Test.YtdojhkgnnbdfkaaGreatGp34
import Derived.Test.YtdojhkgnnbdfkaaGreatGp20
import Derived.Test.YtdojhkgnnbdfkaaGreatGp32
/- A saver is made: contract of New. Conditions: a disk that is there; what is said is of bulk at most 1048576. -/
namespace Go.Proofs.YtdojhkgnnbdfkaaGreat
open BigFrame Go.ChangeShapes Go.WideShapes Go.ChangeAt Go.RowKit Go.Lib Go.Maps
set_option linter.unusedVariables false
set_option linter.unusedSimpArgs false

theorem Wh.ex (ys : List Nat) : ∃ ok g m bs ps, Wh ys ok g m bs ps := by
  by_cases h : ∃ g xs m bs ps, Good ys g xs ∧ AnsD xs 0 m bs ps
  · obtain ⟨g, xs, m, bs, ps, h1, h2⟩ := h
    exact ⟨true, g, m, bs, ps, Wh.ok h1 h2⟩
  · exact ⟨false, 0, 0, [], [], Or.inr ⟨rfl, rfl, rfl, rfl, rfl, fun g xs m bs ps h1 h2 => h ⟨g, xs, m, bs, ps, h1, h2⟩⟩⟩
theorem Nw.ex (s0 s1 : List Nat) : ∃ ok g i m bs ps, Nw s0 s1 ok g i m bs ps := by
  obtain ⟨o0, g0, m0, b0, p0, h0⟩ := Wh.ex s0
  obtain ⟨o1, g1, m1, b1, p1, h1⟩ := Wh.ex s1
  by_cases h : g0 < g1
  · exact ⟨o1, g1, 1, m1, b1, p1, Or.inr ⟨rfl, h1, _, _, _, _, _, h0, h⟩⟩
  · exact ⟨o0, g0, 0, m0, b0, p0, Or.inl ⟨rfl, h0, _, _, _, _, _, h1, by omega⟩⟩
theorem fm_lt {α : Type} (f : α → List Nat) (l : List α) (h : ∀ a ∈ l, ∀ x ∈ f a, x < 256) : ∀ x ∈ l.flatMap f, x < 256 := fun x hx => by
  obtain ⟨a, ha, hxa⟩ := List.mem_flatMap.1 hx
  exact h a ha x hxa
theorem app_lt {a b : List Nat} (ha : ∀ x ∈ a, x < 256) (hb : ∀ x ∈ b, x < 256) : ∀ x ∈ a ++ b, x < 256 := fun x hx => by
  rcases List.mem_append.1 hx with h | h
  · exact ha x h
  · exact hb x h
theorem encX_lt19 (v : Vn) : ∀ x ∈ encX v, x < 256 := by
  refine app_lt (enc_lt _) ?_
  unfold encV
  split
  · intro x hx; simp at hx; omega
  · intro x hx
    rcases List.mem_cons.1 hx with h | h
    · omega
    · exact encS_lt _ x h
theorem encD_lt (m : Int) (bs : List Int) (ps : List Kv) : ∀ x ∈ encD m bs ps, x < 256 :=
  app_lt (enc_lt _) (app_lt (enc_lt _) (app_lt (fm_lt _ _ fun a _ => enc_lt _) (app_lt (enc_lt _) (fm_lt _ _ fun p _ => app_lt (encS_lt _) (app_lt (enc_lt _) (fm_lt _ _ fun v _ => encX_lt19 v))))))
/-- Which refusal New answers. -/
def newE (C g c n : Nat) : Int := if c ≠ 0 then 1 else if g = 4611686018427387904 then 3 else if C < 20 + n then 13 else 0
/-- A checkpoint's bytes. -/
def ckB (g : Nat) (ys : List Nat) : List Nat := hdB (g + 1) ys ++ ys
theorem ckB_length (g : Nat) (ys : List Nat) : (ckB g ys).length = 20 + ys.length := by simp [ckB, hdB_length]
theorem wpList_appR {P : Program} {w w' : World} {ops : Array Oper} {rest : List Oper} {o : Oper} {a : Act} {Q : Exit → Act → World → Prop} (hgd : o.guard = none) (s x : Operand) (t : TypeId)
    (ho : o.op = .call { callee := .builtin .append, args := #[s, x], argTypes := #[t, t] }) (v u r : Value) (hs : a.eval s = v) (hx : a.eval x = u) (hr : (Builtin.append_ #[t, t] o.type #[v, u]).run P w = .ok r w') (h : wpList P ops Q rest (a.put o.dst r) w') : wpList P ops Q (o :: rest) a w := by
  refine wpList_plain hgd fun K hK => ?_
  unfold Oper.wp execOp
  simp only [ho, resolve, invoke, builtin, Sem.run_bind, Sem.run_pure, Result.andThen_ok, List.map_toArray, List.map_cons, List.map_nil, hs, hx, hr]
  exact hK _ _ h
theorem head_app {w : World} {H N c1 : Nat} {a1 : Option Addr} {hd ys : List Nat} (ty : TypeId) (hH : w.heap[H]? = some (.cells (bts hd).toArray 106 (0, 0))) (hl : hd.length = 20) (hO : w.ownsRow 0 5 1 (.slice a1 N c1) N (bts ys)) (h0 : 0 < N) (hN : N < 2^30) :
    ∃ ac w', (Builtin.append_ #[76, 76] ty #[.slice (some ⟨H, 0, none⟩) 20 20, .slice a1 N c1]).run Tryz.prog w = .ok (.slice (some ⟨w.heap.size, 0, none⟩) (20 + N) ac) w' ∧ w'.ownsRow 0 5 1 (.slice (some ⟨w.heap.size, 0, none⟩) (20 + N) ac) (20 + N) (bts (hd ++ ys)) ∧ Fr [] w w' ∧ 20 + N ≤ ac := by
  obtain ⟨i0, hi, hz0, hz1, hz2⟩ := info_parts Tryz.infoB
  obtain ⟨g, c, e, hgc⟩ := own_form hO h0
  cases e
  have holds : ∀ j v, (bts hd)[j]? = some v → w.cell? ((⟨H, 0, none⟩ : Addr).add j) = some v := fun j v hj => by
    rw [Addr.add_lit, Nat.zero_add, cell_of_row _ _ _ _ _ _ hH]
    simpa using hj
  have hnews : ∀ j v, (bts ys)[j]? = some v → w.cell? ((⟨g, 0, none⟩ : Addr).add j) = some v := hO.cells (g := g) rfl
  have hbl : (bts ys).length = N := by have := hO.1; simpa using this
  have hA := run_append_grow (P := Tryz.prog) w 76 ty 5 i0 _ Tryz.undBs hi hz0 ⟨H, 0, none⟩ 20 20 (bts hd) (by rw [hz1, bts_length, hl]) holds ⟨g, 0, none⟩ N c1 (bts ys) (by rw [hz1, hbl, Nat.mul_one]) hnews (by omega) (by omega) (growslice_fits (by omega) (by rw [hz2]; omega))
  have hGn : 20 + N ≤ grownCap w (20 + N) 20 5 := grownCap_ge w _ _ _
  have hGm := grownCap_le_maxLen w (20 + N) 20 5 (by unfold maxLen; omega)
  refine ⟨_, _, hA, ?_, ?_, hGn⟩
  · have el : (bts (hd ++ ys)).length = (20 + N) * 1 := by rw [bts_append, List.length_append, bts_length, hl, hbl]; omega
    refine ⟨el, .inr ⟨w.heap.size, _, _, rfl, Nat.zero_le _, heap_alloc_new w.drew _, hGn, hGm, ?_, ?_⟩⟩
    · have hyl : ys.length = N := by rw [← bts_length ys]; exact hbl
      simp only [Array.size_append, size_zeroCells, List.size_toArray, bts_length, hl, hyl]
      simp [Value.cells]
      omega
    · rw [Array.toList_append, Array.toList_append, List.take_append_of_le_length (by simp [bts_length, hl]; rw [← bts_length ys, hbl]; omega), List.take_of_length_le (by simp [bts_length, hl]; rw [← bts_length ys, hbl]; omega), bts_append]
  · exact (Fr.drew [] w).then (Fr.alloc [] _ _)
/-- What New answers. -/
def SnP (d C g i c : Nat) (ok : Bool) (ys : List Nat) (w : World) (e : Ending) (w' : World) : Prop :=
  (newE C g c ys.length ≠ 0 ∧ e = .returned (.tuple #[.pointer none, .int .i64 (newE C g c ys.length)]) ∧ Fr [] w w') ∨
  (newE C g c ys.length = 0 ∧ ∃ sb fb ab fc ac, e = .returned (.tuple #[.pointer (some ⟨sb, 0, none⟩), .int .i64 0]) ∧ SaM w' sb d fb ab (some ⟨fb, 0, none⟩) fc ac (besN i ok) (ckB g ys) 0 ∧ w.heap.size ≤ sb ∧ w.heap.size ≤ fb ∧ w.heap.size ≤ ab ∧ Fr [] w w')
theorem besN_le (i : Nat) (ok : Bool) : besN i ok ≤ 1 := by unfold besN; split <;> omega
theorem sa_new {w6 w7 : World} {d slot Z N ac fb fc : Nat} {zs : List Nat} (hO : w6.ownsRow 0 5 1 (.slice (some ⟨Z, 0, none⟩) N ac) N (bts zs)) (hN : N = zs.length) (hl : ∀ x ∈ zs, x < 256) (hf : N ≤ 16777216) (hs : slot ≤ 1) (hR : w7.ownsRow w6.heap.size 135 1 (.slice (some ⟨fb, 0, none⟩) (nB N + 1) fc) (nB N + 1) (rawsV d slot Z ac N (nB N))) (hF : Fr [] w6 w7) :
    SaM (w7.alloc (.cells #[.bool true, .slice (some ⟨fb, 0, none⟩) (nB N + 1) fc] 112)) w7.heap.size d fb Z (some ⟨fb, 0, none⟩) fc ac slot zs 0 := by
  subst hN
  have hFa : Fr [] w7 (w7.alloc (.cells #[.bool true, .slice (some ⟨fb, 0, none⟩) (nB zs.length + 1) fc] 112)) := Fr.alloc [] _ _
  rcases hR.2 with ⟨hh, _⟩ | ⟨g, cap, cur, hh, _, hg, hc, _, hs1, ht⟩
  · cases hh
  · cases hh
    refine ⟨heap_alloc_new w7 _, by omega, ⟨cur, hFa.keep hg (by simp), fun j v hj => ?_⟩, fun _ => rfl, hc, owns_keep (owns_keep hO hF (by simp)) hFa (by simp), hl, hf, hs⟩
    have hjl := (List.getElem?_eq_some_iff.1 hj).1
    rw [rawsV_length] at hjl
    rw [← ht, List.getElem?_take_of_lt (by omega)] at hj
    rw [← Array.getElem?_toList]
    exact hj
set_option maxHeartbeats 8000000 in
set_option maxRecDepth 100000 in
theorem snew_any {w0 w : World} {d : Nat} {S : List Nat} {t : Sk} (h : LD w0 w d S t) {ok : Bool} {g i : Nat} {mN : Int} {bN : List Int} {pN : List Kv} (hN : Nw t.s0 t.s1 ok g i mN bN pN)
    (m : Int) (bo ho : Option Addr) (Lb cb Lh ch c : Nat) (bs : List Int) (hs : List Hd) (ps : List Kv) (ys : List Nat) (hI : IRs w bo bs) (hLb : Lb = bs.length) (hH : HRs w ho hs) (hLh : Lh = hs.length) (hp : hs.map Hd.kv = ps) (hT : ToldD m bs ps c ys) (hz : bs.length + szKs ps ≤ 1048576) :
    Calls Tryz.prog 29 #[.pointer (some ⟨d, 0, none⟩), .agg #[.int .i64 m, .slice bo Lb cb, .slice ho Lh ch]] w fun e w' => SnP d t.C g i c ok ys w e w' := by
  obtain ⟨w1, HW1⟩ : ∃ w1, Hid (w.alloc (.cells #[.int .i64 m, .slice bo Lb cb, .slice ho Lh ch] 27) = w1) := ⟨_, rfl⟩
  have hF1 : Fr [] w w1 := by rw [← HW1.out]; exact Fr.alloc [] w _
  have hb1 : w1.heap[w.heap.size]? = some (.cells #[.int .i64 m, .slice bo Lb cb, .slice ho Lh ch] 27 (0, 0)) := by rw [← HW1.out]; exact heap_alloc_new w _
  obtain ⟨A, hA⟩ : ∃ A, A = w.heap.size := ⟨_, rfl⟩
  rw [← hA] at hb1
  have HBx : Hid (∀ W, Fr [] w1 W → W.cell? ⟨A, 0, none⟩ = some (.int .i64 m) ∧ W.cell? ⟨A, 1, none⟩ = some (.slice bo Lb cb) ∧ W.cell? ⟨A, 2, none⟩ = some (.slice ho Lh ch)) := fun W hf => sv_cells (hf.keep hb1 (by simp))
  have HH : Hid (∀ W, Fr [] w1 W → HRs W ho hs ∧ IRs W bo bs) := fun W hf => ⟨hH.keep (hF1.then hf), hI.keep (hF1.then hf)⟩
  have HLD : Hid (∀ W, Fr [] w1 W → LD w0 W d S t) := fun W hf => h.quiet (hF1.then hf)
  have HL : Hid (Lb = bs.length ∧ Lh = hs.length ∧ hs.map Hd.kv = ps) := ⟨hLb, hLh, hp⟩
  have HT : Hid (ToldD m bs ps c ys ∧ bs.length + szKs ps ≤ 1048576) := ⟨hT, hz⟩
  have hyl := hT.len hz
  have HN : Hid (Nw t.s0 t.s1 ok g i mN bN pN) := hN
  have HF1 : Hid (Fr [] w w1) := hF1
  have hC : t.C ≤ 16777216 := h.ok.cap
  have hgi := hN.slot
  have HNe : Hid (Calls _ _ _ _ _) := newest_any (h.quiet hF1)
  obtain ⟨N, hNy⟩ : ∃ N, N = ys.length := ⟨_, rfl⟩
  have HNy : Hid (N = ys.length) := hNy
  rw [← hNy] at hyl
  have hg62 : g ≤ 4611686018427387904 := hgi.2.1
  have hi1 : i ≤ 1 := by rcases hgi.1 with q | q <;> omega
  clear h hN hI hLb hH hLh hp hT hz hb1 hF1 hgi hNy
  go_enter Tryz.func29, Tryz.ntmps29
  go_upto_region 1 with fail
  rw [HW1.out, ← hA]
  clear HW1 hA
  go_wp2_with fail
  refine Calls.mono HNe.out ?_
  rintro e w2 ⟨ok2, g2, i2, m2, bo2, Lb2, cb2, ho2, Lh2, ch2, bs2, hs2, rfl, hN2, hSv2, hF2⟩
  obtain ⟨e1, e2, e3, -, -, -⟩ := hN2.uniq HN.out
  subst e1
  subst e2
  subst e3
  obtain ⟨w3, HW3⟩ : ∃ w3, Hid (w2.alloc (.cells #[.int .i64 m2, .slice bo2 Lb2 cb2, .slice ho2 Lh2 ch2] 27) = w3) := ⟨_, rfl⟩
  have hF3 : Fr [] w2 w3 := by rw [← HW3.out]; exact Fr.alloc [] w2 _
  have HF3 : Hid (Fr [] w1 w3) := hF2.then hF3
  have HEn : Hid (Calls _ _ _ _ _) := dencode_gen m bo ho Lb cb Lh ch c N bs hs ps ys w3 (HH.out _ HF3.out).2 HL.out.1 (HH.out _ HF3.out).1 HL.out.2.1 HL.out.2.2 HT.out.1 HNy.out HT.out.2
  obtain ⟨k0, k1, k2⟩ := HBx.out _ HF3.out
  clear HNe hN2 hSv2 hF2 hF3
  go_upto_region 2 with fail
  rw [HW3.out]
  clear HW3
  go_wp2_with fail
  refine Calls.mono HEn.out ?_
  rintro e w4 ⟨a1, c1, rfl, hO1, hn1, hF4⟩
  have HF4 : Hid (Fr [] w1 w4) := HF3.out.then hF4
  have HO1 : Hid (w4.ownsRow 0 5 1 (.slice a1 N c1) N (bts ys) ∧ ∀ k, (Value.slice a1 N c1).ownBlock = some k → w3.heap.size ≤ k) := ⟨hO1, hn1⟩
  clear HEn hO1 hn1 hF4 k0 k1 k2
  by_cases hc : c = 0
  · subst hc
    by_cases hg : g2 = 4611686018427387904
    · have hge : ((g2 : Int) == 4611686018427387904) = true := by simp; omega
      have HR : Hid (SnP d t.C g2 i2 0 ok2 ys w (.returned (.tuple #[.pointer none, .int .i64 3])) w4) := Or.inl ⟨by simp [newE, hg], by simp [newE, hg], HF1.out.then HF4.out⟩
      clear hg
      go_wp2
      go_ret2
      exact HR.out
    · have hge : ((g2 : Int) == 4611686018427387904) = false := by simp; omega
      obtain ⟨C, HC⟩ : ∃ C, Hid (t.C = C) := ⟨_, rfl⟩
      rw [HC.out] at hC
      have HCa : Hid (Calls _ _ _ _ _) := ld_capacity (HLD.out _ HF4.out) HC.out
      go_wp2_with fail
      refine Calls.mono HCa.out ?_
      rintro e w5 ⟨rfl, rfl⟩
      clear HCa
      by_cases hsp : C < 20 + N
      · have hsp' : (C : Int) < 20 + (N : Int) := by omega
        have HR : Hid (SnP d t.C g2 i2 0 ok2 ys w (.returned (.tuple #[.pointer none, .int .i64 13])) w4) := by
          have e9 : newE t.C g2 0 ys.length = 13 := by
            have := HNy.out
            unfold newE
            rw [if_neg (by simp), if_neg hg, if_pos (by rw [HC.out]; omega)]
          exact Or.inl ⟨by rw [e9]; decide, by rw [e9], HF1.out.then HF4.out⟩
        go_wp2
        go_ret2
        exact HR.out
      · have hsp' : ¬ (C : Int) < 20 + (N : Int) := by omega
        have hyok : OkS m bs ps ∧ ys = encD m bs ps := by
          rcases HT.out.1 with ⟨q1, _, q2⟩ | ⟨_, q, _⟩
          · exact ⟨q1, q2⟩
          · cases q
        have hN3 : 3 ≤ N := by rw [HNy.out, hyok.2]; exact (encD_length m bs ps).1
        have hylow : ∀ x ∈ ys, x < 256 := by rw [hyok.2]; exact encD_lt m bs ps
        have hA4 : BArg w4 a1 N c1 ys := own_arg HO1.out.1 hylow (by omega)
        obtain ⟨HV, HHV⟩ : ∃ HV : Array Value, Hid (HV = (bts (hdB (g2 + 1) ys)).toArray) := ⟨_, rfl⟩
        have hHo := headOf_any (g2 + 1) a1 N c1 ys w4 hA4 (by omega)
        rw [show ((g2 + 1 : Nat) : Int) = (g2 : Int) + 1 from by omega, ← HHV.out] at hHo
        have HHo : Hid (Calls _ _ _ _ _) := hHo
        clear hHo hA4 hyok
        go_wp2_with fail
        refine Calls.mono HHo.out ?_
        rintro e w5 ⟨rfl, hF5⟩
        have hV20 : HV.size = 20 := by rw [HHV.out]; simp [bts_length, hdB_length]
        have hi20 : (Tryz.prog.info? 106).map (·.size) = some HV.size := by rw [hV20]; exact Tryz.infoHead
        have hO20 : (#[.int .u8 0, .int .u8 0, .int .u8 0, .int .u8 0, .int .u8 0, .int .u8 0, .int .u8 0, .int .u8 0, .int .u8 0, .int .u8 0, .int .u8 0, .int .u8 0, .int .u8 0, .int .u8 0, .int .u8 0, .int .u8 0, .int .u8 0, .int .u8 0, .int .u8 0, .int .u8 0] : Array Value).size = HV.size := by rw [hV20]; rfl
        have hone : HV.all (·.oneCell') = true := by
          rw [HHV.out, List.all_toArray, List.all_eq_true]
          intro u hu
          obtain ⟨_, _, rfl⟩ := List.mem_map.1 hu
          rfl
        have hz5 : (w5.alloc (.cells #[.int .u8 0, .int .u8 0, .int .u8 0, .int .u8 0, .int .u8 0, .int .u8 0, .int .u8 0, .int .u8 0, .int .u8 0, .int .u8 0, .int .u8 0, .int .u8 0, .int .u8 0, .int .u8 0, .int .u8 0, .int .u8 0, .int .u8 0, .int .u8 0, .int .u8 0, .int .u8 0] 106)).heap[w5.heap.size]? = some (.cells #[.int .u8 0, .int .u8 0, .int .u8 0, .int .u8 0, .int .u8 0, .int .u8 0, .int .u8 0, .int .u8 0, .int .u8 0, .int .u8 0, .int .u8 0, .int .u8 0, .int .u8 0, .int .u8 0, .int .u8 0, .int .u8 0, .int .u8 0, .int .u8 0, .int .u8 0, .int .u8 0] 106 (0, 0)) := heap_alloc_new w5 _
        obtain ⟨w6, HW6⟩ : ∃ w6, Hid ((w5.alloc (.cells #[.int .u8 0, .int .u8 0, .int .u8 0, .int .u8 0, .int .u8 0, .int .u8 0, .int .u8 0, .int .u8 0, .int .u8 0, .int .u8 0, .int .u8 0, .int .u8 0, .int .u8 0, .int .u8 0, .int .u8 0, .int .u8 0, .int .u8 0, .int .u8 0, .int .u8 0, .int .u8 0] 106)).setRow w5.heap.size HV = w6) := ⟨_, rfl⟩
        obtain ⟨Hh, hHh⟩ : ∃ Hh, Hh = w5.heap.size := ⟨_, rfl⟩
        have hF56 : Fr [] w5 w6 := by rw [← HW6.out]; exact (Fr.alloc [] w5 _).on (Fr.setRow _ _ _) (fun j hj => by simp at hj; omega)
        have hrow6 : w6.heap[Hh]? = some (.cells (bts (hdB (g2 + 1) ys)).toArray 106 (0, 0)) := by rw [← HW6.out, hHh, ← HHV.out]; exact setRow_heap _ _ _ _ 106 _ hz5
        have hO6 := owns_keep HO1.out.1 (hF5.then hF56) (by simp)
        obtain ⟨ac, w7, hr7, hO7, hF7, hac⟩ := head_app (ys := ys) 76 hrow6 (hdB_length _ _) hO6 (by omega) (by omega)
        obtain ⟨Z, hZ⟩ : ∃ Z, Z = w6.heap.size := ⟨_, rfl⟩
        rw [← hZ] at hr7 hO7
        have HF17 : Hid (Fr [] w1 w7) := HF4.out.then (hF5.then (hF56.then hF7))
        have hz1 : w.heap.size ≤ Z := by rw [hZ]; exact (HF1.out.then (HF4.out.then (hF5.then hF56))).size
        have HO7 : Hid (w7.ownsRow 0 5 1 (.slice (some ⟨Z, 0, none⟩) (20 + N) ac) (20 + N) (bts (ckB g2 ys)) ∧ w.heap.size ≤ Z) := ⟨hO7, hz1⟩
        have HCl : Hid (∀ x ∈ ckB g2 ys, x < 256) := app_lt (hdB_lt _ _) hylow
        have HBs : Hid (Calls _ _ _ _ _) := beside_any i2 ok2 w7 hi1
        have HRw : Hid (Calls _ _ _ _ _) := raws_any d (besN i2 ok2) Z (20 + N) ac w7 (by omega) hac (besN_le _ _)
        clear hF5 hF56 hrow6 hO6 hO7 hF7 hZ hV20 hylow hz1
        go_upto_region 12 with (refine wpList_store_row rfl 106 _ _ rfl w5.heap.size HV rfl rfl 106 #[.int .u8 0, .int .u8 0, .int .u8 0, .int .u8 0, .int .u8 0, .int .u8 0, .int .u8 0, .int .u8 0, .int .u8 0, .int .u8 0, .int .u8 0, .int .u8 0, .int .u8 0, .int .u8 0, .int .u8 0, .int .u8 0, .int .u8 0, .int .u8 0, .int .u8 0, .int .u8 0] hz5 hi20 hO20 hone ?_)
        rw [HW6.out, ← hHh]
        clear HW6 hHh hz5 hO20 hone hi20
        go_upto_region 13 with (first | (at_builtin; refine wpList_appR rfl (.tmp 49) (.tmp 50) 76 rfl _ _ _ rfl rfl hr7 ?_))
        clear hr7
        go_wp2_with fail
        refine Calls.mono HBs.out ?_
        rintro e w8 ⟨rfl, rfl⟩
        clear HBs
        obtain ⟨sl, HSl⟩ : ∃ sl, Hid (besN i2 ok2 = sl) := ⟨_, rfl⟩
        rw [HSl.out] at HRw ⊢
        go_wp2_with fail
        refine Calls.mono HRw.out ?_
        rintro e w9 ⟨fb, fc, rfl, hR9, hF9⟩
        have HR : Hid (SnP d t.C g2 i2 0 ok2 ys w (.returned (.tuple #[.pointer (some ⟨w9.heap.size, 0, none⟩), .int .i64 0])) (w9.alloc (.cells #[.bool true, .slice (some ⟨fb, 0, none⟩) (nB (20 + N) + 1) fc] 112))) := by
          have e9 : newE t.C g2 0 ys.length = 0 := by
            have := HNy.out
            unfold newE
            rw [if_neg (by simp), if_neg hg, if_neg (by rw [HC.out]; omega)]
          have hfb : w7.heap.size ≤ fb := by
            rcases hR9.2 with ⟨hh, _⟩ | ⟨q, cap, cur, hh, hb, _⟩
            · cases hh
            · cases hh; exact hb
          have hsz : w.heap.size ≤ w7.heap.size := (HF1.out.then HF17.out).size
          refine Or.inr ⟨e9, w9.heap.size, fb, Z, fc, ac, rfl, ?_, Nat.le_trans hsz hF9.size, by omega, HO7.out.2, HF1.out.then (HF17.out.then (hF9.then (Fr.alloc [] _ _)))⟩
          rw [HSl.out]
          exact sa_new HO7.out.1 (by rw [ckB_length, ← HNy.out]) HCl.out (by omega) (by rw [← HSl.out]; exact besN_le _ _) hR9 hF9
        clear hR9 hF9 HRw
        go_wp2
        go_ret2
        exact HR.out
  · have hce : ((c : Int) != 0) = true := by simp; omega
    have HR : Hid (SnP d t.C g2 i2 c ok2 ys w (.returned (.tuple #[.pointer none, .int .i64 (c : Int)])) w4) := by
      have e9 : newE t.C g2 c ys.length = 1 := by unfold newE; rw [if_pos hc]
      have ec : c = 1 := by
        rcases HT.out.1 with ⟨_, q, _⟩ | ⟨_, q, _⟩
        · exact absurd q hc
        · exact q
      exact Or.inl ⟨by rw [e9]; decide, by rw [e9, ec]; rfl, HF1.out.then HF4.out⟩
    clear hc
    go_wp2
    go_ret2
    exact HR.out
end Go.Proofs.YtdojhkgnnbdfkaaGreat
/- What CRC answers, and the document's More and CRC; what Hash answers, and the document's. Conditions: a slice of bytes that came in, a sum of 32 bits; a key of fewer than 2^62 bytes. -/
namespace Go.Proofs.YtdojhkgnnbdfkaaGreat
open Go.ChangeShapes Go.WideShapes Go.ChangeAt Go.RowKit Go.Lib

set_option maxHeartbeats 4000000 in
set_option maxRecDepth 100000 in
theorem refMore_any (s m : Nat) (ao : Option Addr) (L cap : Nat) (xs : List Nat) (w : World) (hs : s < 4294967296) (hA : BArg w ao L cap xs) (hm : more s xs = m) :
    Calls Tryz.prog 63 #[.int .u32 (s : Int), .slice ao L cap] w fun e w' => e = .returned (.int .u32 (m : Int)) ∧ Fr [] w w' := by
  have HM : Hid (more s xs = m) := hm
  clear hm
  have HL : Hid (L = xs.length) := hA.len
  have hLm := hA.most
  obtain ⟨c0, HC0⟩ : ∃ c0, Hid (c0 = 4294967295 - s) := ⟨_, rfl⟩
  have hc0 : c0 < 4294967296 := by have := HC0.out; omega
  have hsub : (4294967295 : Int) - (s : Int) = (c0 : Int) := by have := HC0.out; omega
  go_enter Tryz.func63, Tryz.ntmps63
  go_wp2_with fail
  go_loop [5, 6] (fun cc ii => ∃ (c i : Nat), cc = .int .u32 (c : Int) ∧ ii = .int .i64 i ∧ i ≤ L ∧ c < 4294967296 ∧ Hid (c = runB c0 (xs.take i))) (fun _ ii => L - (RowKit.intOf ii).toNat)
  case atStart => exact ⟨c0, 0, rfl, rfl, Nat.zero_le _, hc0, rfl⟩
  case round =>
    obtain ⟨c, i, rfl, rfl, hi, hc, HR⟩ := hrel
    by_cases hiL : i < L
    · obtain ⟨b, off, e, _, hcs⟩ := hA.lies (by omega)
      subst e
      have hcx := hcs i hiL
      have hx := getD_mem_lt xs i (by rw [← HL.out]; exact hiL) hA.low
      obtain ⟨x, HX⟩ : ∃ x, Hid (x = xs.getD i 0) := ⟨_, rfl⟩
      rw [← HX.out] at hcx hx
      obtain ⟨d0, HD0⟩ : ∃ d0, Hid (d0 = c ^^^ x) := ⟨_, rfl⟩
      have hd0 : d0 < 4294967296 := by rw [HD0.out]; exact Nat.xor_lt_two_pow (n := 32) hc (by omega)
      have hx32 : bits .xor .u32 (c : Int) (x : Int) = (d0 : Int) := by rw [HD0.out]; exact u32_xor_nat c x hc (by omega)
      have hc' := stepB_lt c x hc hx
      have HR' : Hid (shN 8 d0 = runB c0 (xs.take (i + 1))) := by
        show _ = _
        rw [take_snoc xs i x (by rw [← HL.out]; exact hiL) HX.out, runB_snoc, ← HR.out, HD0.out]
        rfl
      clear hcs
      go_wp2_with fail
      go_loop [5, 7] (fun cc kk => ∃ (d k : Nat), cc = .int .u32 (d : Int) ∧ kk = .int .i64 k ∧ k ≤ 8 ∧ d < 4294967296 ∧ Hid (d = shN k d0)) (fun _ kk => 8 - (RowKit.intOf kk).toNat)
      case atStart => exact ⟨d0, 0, rfl, rfl, by omega, hd0, rfl⟩
      case round =>
        obtain ⟨d, k, rfl, rfl, hk, hd, HD⟩ := hrel
        by_cases hk8 : k < 8
        · have hlt := sh_lt d hd
          have HS : Hid (sh d = shN (k + 1) d0) := by show _ = _; rw [shN_succ, ← HD.out]
          by_cases hp : d % 2 = 1
          · have HE : Hid (sh d = (d / 2) ^^^ 2197175160) := by show _ = _; unfold sh; rw [if_pos hp]
            have hp' : ((d : Int) % 2 == 1) = true := by rw [beq_iff_eq]; omega
            have hx2 : bits .xor .u32 ((d : Int) / 2) 2197175160 = ((sh d : Nat) : Int) := by
              have := u32_xor_nat (d / 2) 2197175160 (by omega) (by omega)
              rw [HE.out]
              simpa using this
            clear hp
            go_wp2_with fail
            go_round
            case rel => exact ⟨sh d, k + 1, rfl, by simp, by omega, hlt, HS⟩
            case measure => simp [RowKit.intOf]; omega
          · have HE : Hid (sh d = d / 2) := by show _ = _; unfold sh; rw [if_neg hp]
            have hp' : ((d : Int) % 2 == 1) = false := by rw [beq_eq_false_iff_ne]; omega
            have hx2 : (d : Int) / 2 = ((sh d : Nat) : Int) := by rw [HE.out]; simp
            clear hp
            go_wp2_with fail
            go_round
            case rel => exact ⟨sh d, k + 1, rfl, by simp, by omega, hlt, HS⟩
            case measure => simp [RowKit.intOf]; omega
        · obtain rfl : k = 8 := by omega
          have HS : Hid (d = runB c0 (xs.take (i + 1))) := by show _ = _; rw [HD.out, HR'.out]
          go_wp2_with fail
          go_round
          case rel => exact ⟨d, i + 1, rfl, by simp, by omega, hd, HS⟩
          case measure => simp [RowKit.intOf]; omega
    · obtain rfl : i = L := by omega
      have HM' : Hid (4294967295 - c = m) := by
        show _ = _
        rw [← HM.out, more, ← HC0.out, HR.out, List.take_of_length_le (by rw [← HL.out]; omega)]
      have hn : (4294967295 : Int) - (c : Int) = (m : Int) := by have := HM'.out; omega
      go_wp2_with fail
      go_ret
      exact ⟨rfl, Fr.refl _ _⟩

set_option maxHeartbeats 2000000 in
theorem refCrc_any (m : Nat) (ao : Option Addr) (L cap : Nat) (xs : List Nat) (w : World) (hA : BArg w ao L cap xs) (hm : more 0 xs = m) :
    Calls Tryz.prog 64 #[.slice ao L cap] w fun e w' => e = .returned (.int .u32 (m : Int)) ∧ Fr [] w w' := by
  go_enter Tryz.func64, Tryz.ntmps64
  go_wp2_with fail
  refine (refMore_any 0 m ao L cap xs w (by omega) hA hm).mono ?_
  rintro e w1 ⟨rfl, hF1⟩
  go_wp2_with fail
  go_ret
  exact ⟨rfl, hF1⟩
end Go.Proofs.YtdojhkgnnbdfkaaGreat
/- The document's Whole: contract. Conditions: fewer than 2^41 bytes. -/
namespace Go.Proofs.YtdojhkgnnbdfkaaGreat
open BigFrame Go.ChangeShapes Go.WideShapes Go.ChangeAt Go.RowKit Go.Lib Go.Maps
set_option linter.unusedVariables false
set_option linter.unusedSimpArgs false

/-- A reader's next number of so many bytes, or that it went wrong before. -/
def FxR (ys : List Nat) (wd p c p' c' v : Nat) : Prop := (c = 0 ∧ wd ≤ (ys.drop p).length ∧ p' = p + wd ∧ c' = 0 ∧ v = leN ((ys.drop p).take wd)) ∨ (c = 0 ∧ (ys.drop p).length < wd ∧ p' = p ∧ c' = 5 ∧ v = 0) ∨ (c ≠ 0 ∧ p' = p ∧ c' = c ∧ v = 0)
theorem fx_any (ao : Option Addr) (L cap p c wd : Nat) (ys : List Nat) (w : World) (h : Rs w ao ys) (hb : ∀ x ∈ ys, x < 256) (hL : L = ys.length) (hp : p ≤ L) (hw1 : 1 ≤ wd) (hw8 : wd ≤ 8) : ∃ p' c' v, FxR ys wd p c p' c' v ∧ p' ≤ L ∧ v < 2^64 ∧
    Calls Tryz.prog 83 #[(.agg #[.bool false, .slice ao L cap, .int .i64 (p : Int), .int .i64 (c : Int)]), .int .i64 (wd : Int)] w fun e w' => e = .returned (.tuple #[(.agg #[.bool false, .slice ao L cap, .int .i64 (p' : Int), .int .i64 (c' : Int)]), .int .u64 (v : Int)]) ∧ Fr [] w w' := by
  by_cases hc : c = 0
  · subst hc
    have hx := xFixed_live ao L cap p ys (wd : Int) w h hb hL hp
    by_cases hl : (ys.drop p).length < wd
    · have e : fixF (wd : Int) (ys.drop p) = (0, 0, 5) := by
        unfold fixF
        rw [if_neg (by omega), if_pos (by omega)]
      rw [e] at hx
      exact ⟨p, 5, 0, Or.inr (Or.inl ⟨rfl, hl, rfl, rfl, rfl⟩), hp, by omega, hx⟩
    · have e : fixF (wd : Int) (ys.drop p) = (leN ((ys.drop p).take wd), wd, 0) := by
        unfold fixF
        rw [if_neg (by omega), if_neg (by omega), Int.toNat_natCast]
      rw [e] at hx
      have hlt : leN ((ys.drop p).take wd) < 2^64 := by
        have h9 := leN_lt ((ys.drop p).take wd) (fun x hx => hb x (List.mem_of_mem_drop (List.mem_of_mem_take hx)))
        have h8 : ((ys.drop p).take wd).length ≤ 8 := by simp; omega
        exact Nat.lt_of_lt_of_le h9 (Nat.le_trans (Nat.pow_le_pow_right (by omega) h8) (by decide))
      refine ⟨p + wd, 0, leN ((ys.drop p).take wd), Or.inl ⟨rfl, by omega, rfl, rfl, rfl⟩, by simp at hl; omega, hlt, ?_⟩
      simpa [stepAt] using hx
  · exact ⟨p, c, 0, Or.inr (Or.inr ⟨hc, rfl, rfl, rfl⟩), hp, by omega, xFixed_dead false ao L cap (p : Int) (c : Int) (wd : Int) w (Or.inr (by omega))⟩
/-- What the document's Whole answers. -/
def WhP (ys : List Nat) (w : World) (e : Ending) (w' : World) : Prop := ∃ (ok : Bool) (g gg : Nat) (m : Int) (bo : Option Addr) (Lb cb : Nat) (ho : Option Addr) (Lh ch : Nat) (bs : List Int) (hs : List Hd), e = .returned (.tuple #[.agg #[.int .i64 m, .slice bo Lb cb, .slice ho Lh ch], .int .u64 (gg : Int), .bool ok]) ∧ Wh ys ok g m bs (hs.map Hd.kv) ∧ (ok = true → gg = g) ∧ gg < 2^64 ∧ SvO w w' bo Lb cb ho Lh ch bs hs ∧ Fr [] w w'
theorem WhP.no {ys : List Nat} {w w' : World} (h : Wh ys false 0 0 [] []) (hf : Fr [] w w') : WhP ys w (.returned (.tuple #[.agg #[.int .i64 0, .slice none 0 0, .slice none 0 0], .int .u64 0, .bool false])) w' :=
  ⟨false, 0, 0, 0, none, 0, 0, none, 0, 0, [], [], rfl, h, fun e => (by cases e), by omega, SvO.nil _ _, hf⟩
/-- All four numbers of a head were there. -/
structure Fo (ys : List Nat) (v1 v2 v3 v4 : Nat) : Prop where
  len : 20 ≤ ys.length
  e1 : v1 = leN (ys.take 4)
  e2 : v2 = leN ((ys.drop 4).take 8)
  e3 : v3 = leN ((ys.drop 12).take 4)
  e4 : v4 = leN ((ys.drop 16).take 4)
theorem fo_of {ys : List Nat} {p1 c1 v1 p2 c2 v2 p3 c3 v3 p4 c4 v4 : Nat} (h1 : FxR ys 4 0 0 p1 c1 v1) (h2 : FxR ys 8 p1 c1 p2 c2 v2) (h3 : FxR ys 4 p2 c2 p3 c3 v3) (h4 : FxR ys 4 p3 c3 p4 c4 v4) : (c4 ≠ 0 ∧ ys.length < 20) ∨ (c4 = 0 ∧ p4 = 20 ∧ Fo ys v1 v2 v3 v4) := by
  rcases h1 with ⟨_, a1, rfl, rfl, rfl⟩ | ⟨_, a1, rfl, rfl, rfl⟩ | ⟨q, _⟩
  · rcases h2 with ⟨_, a2, rfl, rfl, rfl⟩ | ⟨_, a2, rfl, rfl, rfl⟩ | ⟨q, _⟩
    · rcases h3 with ⟨_, a3, rfl, rfl, rfl⟩ | ⟨_, a3, rfl, rfl, rfl⟩ | ⟨q, _⟩
      · rcases h4 with ⟨_, a4, rfl, rfl, rfl⟩ | ⟨_, a4, rfl, rfl, rfl⟩ | ⟨q, _⟩
        · simp at a4
          exact Or.inr ⟨rfl, rfl, ⟨by omega, by simp, by simp, by simp, by simp⟩⟩
        · simp at a4
          exact Or.inl ⟨by omega, by omega⟩
        · exact absurd rfl q
      · simp at a3
        rcases h4 with ⟨q, _⟩ | ⟨q, _⟩ | ⟨_, rfl, rfl, rfl⟩
        · omega
        · omega
        · exact Or.inl ⟨by omega, by omega⟩
      · exact absurd rfl q
    · simp at a2
      rcases h3 with ⟨q, _⟩ | ⟨q, _⟩ | ⟨_, rfl, rfl, rfl⟩
      · omega
      · omega
      · rcases h4 with ⟨q, _⟩ | ⟨q, _⟩ | ⟨_, rfl, rfl, rfl⟩
        · omega
        · omega
        · exact Or.inl ⟨by omega, by omega⟩
    · exact absurd rfl q
  · simp at a1
    rcases h2 with ⟨q, _⟩ | ⟨q, _⟩ | ⟨_, rfl, rfl, rfl⟩
    · omega
    · omega
    · rcases h3 with ⟨q, _⟩ | ⟨q, _⟩ | ⟨_, rfl, rfl, rfl⟩
      · omega
      · omega
      · rcases h4 with ⟨q, _⟩ | ⟨q, _⟩ | ⟨_, rfl, rfl, rfl⟩
        · omega
        · omega
        · exact Or.inl ⟨by omega, by omega⟩
  · exact absurd rfl q
theorem hd_split (g : Nat) (xs r : List Nat) : hdB g xs ++ r = leB 4 1464880980 ++ (leB 8 g ++ (leB 4 xs.length ++ (leB 4 (sumH g xs) ++ r))) := by simp [hdB, midB]
theorem Good.parts {ys xs : List Nat} {g v1 v2 v3 v4 : Nat} (h : Good ys g xs) (f : Fo ys v1 v2 v3 v4) (hx : xs.length < 2^32) : v1 = 1464880980 ∧ v2 = g ∧ v3 = xs.length ∧ v4 = sumH g xs := by
  have e := hd_split g xs xs
  rw [← h.eq] at e
  have l4 : ∀ n, (leB 4 n).length = 4 := leB_length 4
  have d1 : ys.drop 4 = leB 8 g ++ (leB 4 xs.length ++ (leB 4 (sumH g xs) ++ xs)) := by rw [e, List.drop_left' (l4 _)]
  have d2 : ys.drop 12 = leB 4 xs.length ++ (leB 4 (sumH g xs) ++ xs) := by rw [show 12 = 4 + 8 from rfl, ← List.drop_drop, d1, List.drop_left' (leB_length 8 _)]
  have d3 : ys.drop 16 = leB 4 (sumH g xs) ++ xs := by rw [show 16 = 12 + 4 from rfl, ← List.drop_drop, d2, List.drop_left' (l4 _)]
  refine ⟨?_, ?_, ?_, ?_⟩
  · rw [f.e1, e, List.take_left' (l4 _), leN_leB 4 _ (by decide)]
  · rw [f.e2]; exact h.gen
  · rw [f.e3, d2, List.take_left' (l4 _), leN_leB 4 _ (by omega)]
  · rw [f.e4, d3, List.take_left' (l4 _), leN_leB 4 _ (by have := more_lt (more 0 (midB g xs.length)) xs; unfold sumH; omega)]
theorem Fo.good {ys : List Nat} {v1 v2 v3 v4 : Nat} (f : Fo ys v1 v2 v3 v4) (hb : ∀ x ∈ ys, x < 256) (h1 : v1 = 1464880980) (h2 : 1 ≤ v2) (h2' : v2 ≤ 4611686018427387904) (h3 : v3 = (ys.drop 20).length) (h4 : v4 = more (more 0 ((ys.drop 4).take 12)) (ys.drop 20)) : Good ys v2 (ys.drop 20) := by
  have hl := f.len
  have key : ∀ (a n : Nat), a + n ≤ ys.length → leB n (leN ((ys.drop a).take n)) = (ys.drop a).take n := fun a n h => by
    have h9 := leB_leN ((ys.drop a).take n) (fun x hx => hb x (List.mem_of_mem_drop (List.mem_of_mem_take hx)))
    have h8 : ((ys.drop a).take n).length = n := by simp; omega
    rw [h8] at h9
    exact h9
  have k1 := key 0 4 (by omega)
  have k2 := key 4 8 (by omega)
  have k3 := key 12 4 (by omega)
  have k4 := key 16 4 (by omega)
  simp only [List.drop_zero] at k1
  rw [← f.e1, h1] at k1
  rw [← f.e2] at k2
  rw [← f.e3, h3] at k3
  rw [← f.e4] at k4
  have hmid : midB v2 (ys.drop 20).length = (ys.drop 4).take 12 := by
    unfold midB
    rw [k2, k3, show (ys.drop 12) = (ys.drop 4).drop 8 by rw [List.drop_drop], ← List.take_add]
  have hsum : sumH v2 (ys.drop 20) = v4 := by unfold sumH; rw [hmid, h4]
  refine ⟨?_, h2, h2'⟩
  rw [hd_split, hsum, k1, k2, k3, k4]
  rw [show ys.drop 16 = (ys.drop 12).drop 4 by rw [List.drop_drop], show ys.drop 20 = ((ys.drop 12).drop 4).drop 4 by rw [List.drop_drop, List.drop_drop], List.take_append_drop, List.take_append_drop, show ys.drop 12 = (ys.drop 4).drop 8 by rw [List.drop_drop], List.take_append_drop, List.take_append_drop]
end Go.Proofs.YtdojhkgnnbdfkaaGreat
