/- The document's New: contracts. Conditions: a disk that is there; at most 2^20 numbers and letters in what is saved. -/
import Derived.Test.YtdojhkgnnbdfkaaGreatZs19
import Derived.Test.YtdojhkgnnbdfkaaGreatTe18
namespace Go.Proofs.YtdojhkgnnbdfkaaGreat
open BigFrame Go.ChangeShapes Go.WideShapes Go.ChangeAt Go.RowKit Go.Lib Go.Maps
set_option linter.unusedVariables false
set_option linter.unusedSimpArgs false

/-- What the document's New answers. -/
def ZnP (d C g i c : Nat) (ok : Bool) (ys : List Nat) (w : World) (e : Ending) (w' : World) : Prop :=
  (newE C g c ys.length ≠ 0 ∧ e = .returned (.tuple #[.pointer none, .int .i64 (newE C g c ys.length)]) ∧ Fr [] w w') ∨
  (newE C g c ys.length = 0 ∧ ∃ tb ab ac, e = .returned (.tuple #[.pointer (some ⟨tb, 0, none⟩), .int .i64 0]) ∧ ZaM w' tb d ab ac (besN i ok) (ckB g ys) 0 ∧ w.heap.size ≤ tb ∧ w.heap.size ≤ ab ∧ Fr [] w w')
set_option maxHeartbeats 1000000 in
theorem znew_nil (m : Int) (bo ho : Option Addr) (Lb cb Lh ch : Nat) (w : World) : Calls Tryz.prog 18 #[.pointer none, .agg #[.int .i64 m, .slice bo Lb cb, .slice ho Lh ch]] w fun e w' => e = .returned (.tuple #[.pointer none, .int .i64 2]) ∧ Fr [] w w' := by
  have HF : Hid (Fr [] w (w.alloc (.cells #[.int .i64 m, .slice bo Lb cb, .slice ho Lh ch] 27))) := Fr.alloc [] w _
  go_enter Tryz.func18, Tryz.ntmps18
  go_wp2
  go_ret2
  exact ⟨rfl, HF.out⟩
theorem za_new {w : World} {d slot ab ac N : Nat} {zs : List Nat} {sv : Int} (hO : w.ownsRow 0 5 1 (.slice (some ⟨ab, 0, none⟩) N ac) N (bts zs)) (hN : N = zs.length) (hl : ∀ x ∈ zs, x < 256) (hf : N ≤ 16777216) (hs : slot ≤ 1) (hsv : sv = (slot : Int)) :
    ZaM (w.alloc (.cells #[.pointer (some ⟨d, 0, none⟩), .int .i64 sv, .slice (some ⟨ab, 0, none⟩) N ac, .int .i64 0] 87)) w.heap.size d ab ac slot zs 0 := by
  subst hN
  subst hsv
  exact ⟨heap_alloc_new w _, by omega, owns_keep hO (Fr.alloc [] _ _) (by simp), hl, hf, hs⟩
set_option maxHeartbeats 2000000 in
theorem znew_no {w0 w : World} {d : Nat} {S : List Nat} {t : Sk} (h : LR w0 w d S t) {ok : Bool} {g i : Nat} {mN : Int} {bN : List Int} {pN : List Kv} (hN : Nw t.s0 t.s1 ok g i mN bN pN)
    (m : Int) (bo ho : Option Addr) (Lb cb Lh ch : Nat) (bs : List Int) (hs : List Hd) (ps : List Kv) (ys : List Nat) (hI : IRs w bo bs) (hLb : Lb = bs.length) (hH : HRs w ho hs) (hLh : Lh = hs.length) (hp : hs.map Hd.kv = ps) (hT : ToldD m bs ps 1 ys) (hz : bs.length + szKs ps ≤ 1048576) :
    Calls Tryz.prog 18 #[.pointer (some ⟨d, 0, none⟩), .agg #[.int .i64 m, .slice bo Lb cb, .slice ho Lh ch]] w fun e w' => ZnP d t.C g i 1 ok ys w e w' := by
  obtain ⟨w1, HW1⟩ : ∃ w1, Hid (w.alloc (.cells #[.int .i64 m, .slice bo Lb cb, .slice ho Lh ch] 27) = w1) := ⟨_, rfl⟩
  have hF1 : Fr [] w w1 := by rw [← HW1.out]; exact Fr.alloc [] w _
  have hb1 : w1.heap[w.heap.size]? = some (.cells #[.int .i64 m, .slice bo Lb cb, .slice ho Lh ch] 27 (0, 0)) := by rw [← HW1.out]; exact heap_alloc_new w _
  obtain ⟨A, hA⟩ : ∃ A, A = w.heap.size := ⟨_, rfl⟩
  rw [← hA] at hb1
  obtain ⟨k0, k1, k2⟩ := sv_cells hb1
  have HF1 : Hid (Fr [] w w1) := hF1
  have hno : ¬ OkS m bs (hs.map Hd.kv) := by
    rw [hp]
    rcases hT with ⟨_, q, _⟩ | ⟨q, _, _⟩
    · cases q
    · exact q
  have HEn : Hid (Calls _ _ _ _ _) := ywencode_no m bo ho Lb cb Lh ch bs hs w1 (hI.keep hF1) hLb (hH.keep hF1) hLh hno
  clear h hN hI hLb hH hLh hp hT hz hb1 hF1 hno
  go_enter Tryz.func18, Tryz.ntmps18
  go_upto_region 1 with fail
  rw [HW1.out, ← hA]
  clear HW1 hA
  go_wp2_with fail
  refine Calls.mono HEn.out ?_
  rintro e w2 ⟨rfl, hF2⟩
  have HR : Hid (ZnP d t.C g i 1 ok ys w (.returned (.tuple #[.pointer none, .int .i64 1])) w2) := Or.inl ⟨by simp [newE], by simp [newE], HF1.out.then hF2⟩
  clear HEn hF2
  go_wp2
  go_ret2
  exact HR.out
set_option maxHeartbeats 8000000 in
set_option maxRecDepth 100000 in
theorem znew_true {w0 w : World} {d : Nat} {S : List Nat} {t : Sk} (h : LR w0 w d S t) {g i : Nat} {mN : Int} {bN : List Int} {pN : List Kv} (hN : Nw t.s0 t.s1 true g i mN bN pN)
    (m : Int) (bo ho : Option Addr) (Lb cb Lh ch : Nat) (bs : List Int) (hs : List Hd) (ps : List Kv) (ys : List Nat) (hI : IRs w bo bs) (hLb : Lb = bs.length) (hH : HRs w ho hs) (hLh : Lh = hs.length) (hp : hs.map Hd.kv = ps) (hT : ToldD m bs ps 0 ys) (hz : bs.length + szKs ps ≤ 1048576) :
    Calls Tryz.prog 18 #[.pointer (some ⟨d, 0, none⟩), .agg #[.int .i64 m, .slice bo Lb cb, .slice ho Lh ch]] w fun e w' => ZnP d t.C g i 0 true ys w e w' := by
  obtain ⟨w1, HW1⟩ : ∃ w1, Hid (w.alloc (.cells #[.int .i64 m, .slice bo Lb cb, .slice ho Lh ch] 27) = w1) := ⟨_, rfl⟩
  have hF1 : Fr [] w w1 := by rw [← HW1.out]; exact Fr.alloc [] w _
  have hb1 : w1.heap[w.heap.size]? = some (.cells #[.int .i64 m, .slice bo Lb cb, .slice ho Lh ch] 27 (0, 0)) := by rw [← HW1.out]; exact heap_alloc_new w _
  obtain ⟨A, hA⟩ : ∃ A, A = w.heap.size := ⟨_, rfl⟩
  rw [← hA] at hb1
  obtain ⟨k0, k1, k2⟩ := sv_cells hb1
  have HF1 : Hid (Fr [] w w1) := hF1
  have hok : OkS m bs ps ∧ ys = encD m bs ps := by
    rcases hT with ⟨q1, _, q2⟩ | ⟨_, q, _⟩
    · exact ⟨q1, q2⟩
    · cases q
  have hyl := hT.len hz
  have hfew := (szKs_few (hs := hs) (by rw [hp]; omega)).1
  obtain ⟨N, hNy⟩ : ∃ N, N = ys.length := ⟨_, rfl⟩
  have HEn : Hid (Calls _ _ _ _ _) := ywencode_ok m bo ho Lb cb Lh ch N bs hs ys w1 (hI.keep hF1) hLb (hH.keep hF1) hLh (by rw [hp]; exact hok.1) (by rw [hp]; exact hok.2) hNy (by omega) (by omega) (by omega)
  have HNy : Hid (N = ys.length) := hNy
  have HYl : Hid (∀ x ∈ ys, x < 256) := by show ∀ x ∈ ys, x < 256; rw [hok.2]; exact encD_lt m bs ps
  have HLD : Hid (∀ W, Fr [] w W → LR w0 W d S t) := fun W hf => h.quiet hf
  have HN : Hid (Nw t.s0 t.s1 true g i mN bN pN) := hN
  have hgi := hN.slot
  have hg62 : g ≤ 4611686018427387904 := hgi.2.1
  have hi1 : i ≤ 1 := by rcases hgi.1 with q | q <;> omega
  have hC : t.C ≤ 16777216 := h.ok.cap
  rw [← hNy] at hyl
  clear h hN hI hLb hH hLh hp hT hz hb1 hF1 hok hfew hNy hgi
  go_enter Tryz.func18, Tryz.ntmps18
  go_upto_region 1 with fail
  rw [HW1.out, ← hA]
  clear HW1 hA
  go_wp2_with fail
  refine Calls.mono HEn.out ?_
  rintro e w2 ⟨a1, c1, rfl, hW2⟩
  have HF2 : Hid (Fr [] w w2) := HF1.out.then hW2.fr
  have HB2 : Hid (∀ W, Fr [] w2 W → BArg W a1 N c1 ys) := fun W hf => (own_arg (own_base hW2.row.2 (Nat.zero_le _)) HYl.out (by omega)).keep hf
  have HNe : Hid (Calls _ _ _ _ _) := znewest_any (HLD.out _ HF2.out)
  clear HEn hW2 k0 k1 k2
  go_wp2_with fail
  refine Calls.mono HNe.out ?_
  rintro e w3 ⟨ok2, g2, i2, m2, bo2, Lb2, cb2, ho2, Lh2, ch2, bs2, hs2, rfl, hN2, hSv2, hF3⟩
  obtain ⟨e1, e2, e3, -, -, -⟩ := hN2.uniq HN.out
  subst e1
  subst e2
  subst e3
  obtain ⟨w4, HW4⟩ : ∃ w4, Hid (w3.alloc (.cells #[.int .i64 m2, .slice bo2 Lb2 cb2, .slice ho2 Lh2 ch2] 27) = w4) := ⟨_, rfl⟩
  have hF4 : Fr [] w3 w4 := by rw [← HW4.out]; exact Fr.alloc [] w3 _
  have HF4 : Hid (Fr [] w w4 ∧ Fr [] w2 w4) := ⟨HF2.out.then (hF3.then hF4), hF3.then hF4⟩
  clear HNe hN2 hSv2 hF3 hF4
  go_upto_region 7 with fail
  rw [HW4.out]
  clear HW4
  by_cases hg : g2 = 4611686018427387904
  · have hge : ((g2 : Int) == 4611686018427387904) = true := by simp; omega
    have HR : Hid (ZnP d t.C g2 i2 0 true ys w (.returned (.tuple #[.pointer none, .int .i64 3])) w4) := Or.inl ⟨by simp [newE, hg], by simp [newE, hg], HF4.out.1⟩
    clear hg
    go_wp2
    go_ret2
    exact HR.out
  · have hge : ((g2 : Int) == 4611686018427387904) = false := by simp; omega
    obtain ⟨C, HC⟩ : ∃ C, Hid (t.C = C) := ⟨_, rfl⟩
    rw [HC.out] at hC
    have hwg : IntKind.u64.wrap (g2 : Int) = (g2 : Int) := by rw [wr_u64]; omega
    have hBy := zbytes_any (g2 + 1) a1 N c1 ys w4 (HB2.out _ HF4.out.2) (by omega) (by omega)
    rw [show ((g2 + 1 : Nat) : Int) = (g2 : Int) + 1 from by omega] at hBy
    have HBy : Hid (Calls _ _ _ _ _) := hBy
    clear hBy
    go_wp2_with fail
    refine Calls.mono HBy.out ?_
    rintro e w5 ⟨zo, zc, rfl, hW5⟩
    have HF5 : Hid (Fr [] w w5) := HF4.out.1.then hW5.fr
    have HO5 : Hid (w5.ownsRow 0 5 1 (.slice zo (20 + N) zc) (20 + N) (bts (ckB g2 ys))) := own_base hW5.row.2 (Nat.zero_le _)
    have HZo : Hid (∃ ab, zo = some ⟨ab, 0, none⟩ ∧ w.heap.size ≤ ab) := by
      rcases hW5.row.2.2 with ⟨hh, q⟩ | ⟨q, cp, cur, hh, hb, _⟩
      · omega
      · cases hh
        exact ⟨q, rfl, Nat.le_trans HF4.out.1.size hb⟩
    have HCa : Hid (Calls _ _ _ _ _) := lr_capacity (HLD.out _ HF5.out) HC.out
    clear HBy hW5
    go_wp2_with fail
    refine Calls.mono HCa.out ?_
    rintro e w6 ⟨rfl, rfl⟩
    clear HCa
    by_cases hsp : C < 20 + N
    · have hsp' : (C : Int) < 20 + (N : Int) := by omega
      have HR : Hid (ZnP d t.C g2 i2 0 true ys w (.returned (.tuple #[.pointer none, .int .i64 13])) w5) := by
        have e9 : newE t.C g2 0 ys.length = 13 := by
          have := HNy.out
          unfold newE
          rw [if_neg (by simp), if_neg hg, if_pos (by rw [HC.out]; omega)]
        exact Or.inl ⟨by rw [e9]; decide, by rw [e9], HF5.out⟩
      go_wp2
      go_ret2
      exact HR.out
    · have hsp' : ¬ (C : Int) < 20 + (N : Int) := by omega
      have HR : Hid (ZnP d t.C g2 i2 0 true ys w (.returned (.tuple #[.pointer (some ⟨w5.heap.size, 0, none⟩), .int .i64 0])) (w5.alloc (.cells #[.pointer (some ⟨d, 0, none⟩), .int .i64 (1 - (i2 : Int)), .slice zo (20 + N) zc, .int .i64 0] 87))) := by
        obtain ⟨ab, rfl, hab⟩ := HZo.out
        have e9 : newE t.C g2 0 ys.length = 0 := by
          have := HNy.out
          unfold newE
          rw [if_neg (by simp), if_neg hg, if_neg (by rw [HC.out]; omega)]
        refine Or.inr ⟨e9, w5.heap.size, ab, zc, rfl, za_new HO5.out (by rw [ckB_length, ← HNy.out]) (app_lt (hdB_lt _ _) HYl.out) (by omega) (besN_le _ _) ?_, HF5.out.size, hab, HF5.out.then (Fr.alloc [] _ _)⟩
        simp [besN]; omega
      go_wp2
      go_ret2
      exact HR.out
set_option maxHeartbeats 8000000 in
set_option maxRecDepth 100000 in
theorem znew_false {w0 w : World} {d : Nat} {S : List Nat} {t : Sk} (h : LR w0 w d S t) {g i : Nat} {mN : Int} {bN : List Int} {pN : List Kv} (hN : Nw t.s0 t.s1 false g i mN bN pN)
    (m : Int) (bo ho : Option Addr) (Lb cb Lh ch : Nat) (bs : List Int) (hs : List Hd) (ps : List Kv) (ys : List Nat) (hI : IRs w bo bs) (hLb : Lb = bs.length) (hH : HRs w ho hs) (hLh : Lh = hs.length) (hp : hs.map Hd.kv = ps) (hT : ToldD m bs ps 0 ys) (hz : bs.length + szKs ps ≤ 1048576) :
    Calls Tryz.prog 18 #[.pointer (some ⟨d, 0, none⟩), .agg #[.int .i64 m, .slice bo Lb cb, .slice ho Lh ch]] w fun e w' => ZnP d t.C g i 0 false ys w e w' := by
  obtain ⟨w1, HW1⟩ : ∃ w1, Hid (w.alloc (.cells #[.int .i64 m, .slice bo Lb cb, .slice ho Lh ch] 27) = w1) := ⟨_, rfl⟩
  have hF1 : Fr [] w w1 := by rw [← HW1.out]; exact Fr.alloc [] w _
  have hb1 : w1.heap[w.heap.size]? = some (.cells #[.int .i64 m, .slice bo Lb cb, .slice ho Lh ch] 27 (0, 0)) := by rw [← HW1.out]; exact heap_alloc_new w _
  obtain ⟨A, hA⟩ : ∃ A, A = w.heap.size := ⟨_, rfl⟩
  rw [← hA] at hb1
  obtain ⟨k0, k1, k2⟩ := sv_cells hb1
  have HF1 : Hid (Fr [] w w1) := hF1
  have hok : OkS m bs ps ∧ ys = encD m bs ps := by
    rcases hT with ⟨q1, _, q2⟩ | ⟨_, q, _⟩
    · exact ⟨q1, q2⟩
    · cases q
  have hyl := hT.len hz
  have hfew := (szKs_few (hs := hs) (by rw [hp]; omega)).1
  obtain ⟨N, hNy⟩ : ∃ N, N = ys.length := ⟨_, rfl⟩
  have HEn : Hid (Calls _ _ _ _ _) := ywencode_ok m bo ho Lb cb Lh ch N bs hs ys w1 (hI.keep hF1) hLb (hH.keep hF1) hLh (by rw [hp]; exact hok.1) (by rw [hp]; exact hok.2) hNy (by omega) (by omega) (by omega)
  have HNy : Hid (N = ys.length) := hNy
  have HYl : Hid (∀ x ∈ ys, x < 256) := by show ∀ x ∈ ys, x < 256; rw [hok.2]; exact encD_lt m bs ps
  have HLD : Hid (∀ W, Fr [] w W → LR w0 W d S t) := fun W hf => h.quiet hf
  have HN : Hid (Nw t.s0 t.s1 false g i mN bN pN) := hN
  have hgi := hN.slot
  have hg62 : g ≤ 4611686018427387904 := hgi.2.1
  have hi1 : i ≤ 1 := by rcases hgi.1 with q | q <;> omega
  have hg0 : g = 0 ∧ i = 0 := by
    rcases hN with ⟨q1, q2, _⟩ | ⟨q1, q2, _, _, _, _, _, _, q3⟩
    · rcases q2 with ⟨r1, _⟩ | ⟨_, r2, _⟩
      · cases r1
      · exact ⟨r2, q1⟩
    · rcases q2 with ⟨r1, _⟩ | ⟨_, r2, _⟩
      · cases r1
      · omega
  have HG0 : Hid (g = 0 ∧ i = 0) := hg0
  have hC : t.C ≤ 16777216 := h.ok.cap
  rw [← hNy] at hyl
  clear h hN hI hLb hH hLh hp hT hz hb1 hF1 hok hfew hNy hgi hg0
  go_enter Tryz.func18, Tryz.ntmps18
  go_upto_region 1 with fail
  rw [HW1.out, ← hA]
  clear HW1 hA
  go_wp2_with fail
  refine Calls.mono HEn.out ?_
  rintro e w2 ⟨a1, c1, rfl, hW2⟩
  have HF2 : Hid (Fr [] w w2) := HF1.out.then hW2.fr
  have HB2 : Hid (∀ W, Fr [] w2 W → BArg W a1 N c1 ys) := fun W hf => (own_arg (own_base hW2.row.2 (Nat.zero_le _)) HYl.out (by omega)).keep hf
  have HNe : Hid (Calls _ _ _ _ _) := znewest_any (HLD.out _ HF2.out)
  clear HEn hW2 k0 k1 k2
  go_wp2_with fail
  refine Calls.mono HNe.out ?_
  rintro e w3 ⟨ok2, g2, i2, m2, bo2, Lb2, cb2, ho2, Lh2, ch2, bs2, hs2, rfl, hN2, hSv2, hF3⟩
  obtain ⟨e1, e2, e3, -, -, -⟩ := hN2.uniq HN.out
  subst e1
  subst e2
  subst e3
  obtain ⟨w4, HW4⟩ : ∃ w4, Hid (w3.alloc (.cells #[.int .i64 m2, .slice bo2 Lb2 cb2, .slice ho2 Lh2 ch2] 27) = w4) := ⟨_, rfl⟩
  have hF4 : Fr [] w3 w4 := by rw [← HW4.out]; exact Fr.alloc [] w3 _
  have HF4 : Hid (Fr [] w w4 ∧ Fr [] w2 w4) := ⟨HF2.out.then (hF3.then hF4), hF3.then hF4⟩
  clear HNe hN2 hSv2 hF3 hF4
  go_upto_region 7 with fail
  rw [HW4.out]
  clear HW4
  by_cases hg : g2 = 4611686018427387904
  · have hge : ((g2 : Int) == 4611686018427387904) = true := by simp; omega
    have HR : Hid (ZnP d t.C g2 i2 0 false ys w (.returned (.tuple #[.pointer none, .int .i64 3])) w4) := Or.inl ⟨by simp [newE, hg], by simp [newE, hg], HF4.out.1⟩
    clear hg
    go_wp2
    go_ret2
    exact HR.out
  · have hge : ((g2 : Int) == 4611686018427387904) = false := by simp; omega
    obtain ⟨C, HC⟩ : ∃ C, Hid (t.C = C) := ⟨_, rfl⟩
    rw [HC.out] at hC
    have hwg : IntKind.u64.wrap (g2 : Int) = (g2 : Int) := by rw [wr_u64]; omega
    have hBy := zbytes_any (g2 + 1) a1 N c1 ys w4 (HB2.out _ HF4.out.2) (by omega) (by omega)
    rw [show ((g2 + 1 : Nat) : Int) = (g2 : Int) + 1 from by omega] at hBy
    have HBy : Hid (Calls _ _ _ _ _) := hBy
    clear hBy
    go_wp2_with fail
    refine Calls.mono HBy.out ?_
    rintro e w5 ⟨zo, zc, rfl, hW5⟩
    have HF5 : Hid (Fr [] w w5) := HF4.out.1.then hW5.fr
    have HO5 : Hid (w5.ownsRow 0 5 1 (.slice zo (20 + N) zc) (20 + N) (bts (ckB g2 ys))) := own_base hW5.row.2 (Nat.zero_le _)
    have HZo : Hid (∃ ab, zo = some ⟨ab, 0, none⟩ ∧ w.heap.size ≤ ab) := by
      rcases hW5.row.2.2 with ⟨hh, q⟩ | ⟨q, cp, cur, hh, hb, _⟩
      · omega
      · cases hh
        exact ⟨q, rfl, Nat.le_trans HF4.out.1.size hb⟩
    have HCa : Hid (Calls _ _ _ _ _) := lr_capacity (HLD.out _ HF5.out) HC.out
    clear HBy hW5
    go_wp2_with fail
    refine Calls.mono HCa.out ?_
    rintro e w6 ⟨rfl, rfl⟩
    clear HCa
    by_cases hsp : C < 20 + N
    · have hsp' : (C : Int) < 20 + (N : Int) := by omega
      have HR : Hid (ZnP d t.C g2 i2 0 false ys w (.returned (.tuple #[.pointer none, .int .i64 13])) w5) := by
        have e9 : newE t.C g2 0 ys.length = 13 := by
          have := HNy.out
          unfold newE
          rw [if_neg (by simp), if_neg hg, if_pos (by rw [HC.out]; omega)]
        exact Or.inl ⟨by rw [e9]; decide, by rw [e9], HF5.out⟩
      go_wp2
      go_ret2
      exact HR.out
    · have hsp' : ¬ (C : Int) < 20 + (N : Int) := by omega
      have HR : Hid (ZnP d t.C g2 i2 0 false ys w (.returned (.tuple #[.pointer (some ⟨w5.heap.size, 0, none⟩), .int .i64 0])) (w5.alloc (.cells #[.pointer (some ⟨d, 0, none⟩), .int .i64 (i2), .slice zo (20 + N) zc, .int .i64 0] 87))) := by
        obtain ⟨ab, rfl, hab⟩ := HZo.out
        have e9 : newE t.C g2 0 ys.length = 0 := by
          have := HNy.out
          unfold newE
          rw [if_neg (by simp), if_neg hg, if_neg (by rw [HC.out]; omega)]
        refine Or.inr ⟨e9, w5.heap.size, ab, zc, rfl, za_new HO5.out (by rw [ckB_length, ← HNy.out]) (app_lt (hdB_lt _ _) HYl.out) (by omega) (besN_le _ _) ?_, HF5.out.size, hab, HF5.out.then (Fr.alloc [] _ _)⟩
        have := HG0.out; simp [besN]; omega
      go_wp2
      go_ret2
      exact HR.out
theorem znew_any {w0 w : World} {d : Nat} {S : List Nat} {t : Sk} (h : LR w0 w d S t) {ok : Bool} {g i : Nat} {mN : Int} {bN : List Int} {pN : List Kv} (hN : Nw t.s0 t.s1 ok g i mN bN pN)
    (m : Int) (bo ho : Option Addr) (Lb cb Lh ch c : Nat) (bs : List Int) (hs : List Hd) (ps : List Kv) (ys : List Nat) (hI : IRs w bo bs) (hLb : Lb = bs.length) (hH : HRs w ho hs) (hLh : Lh = hs.length) (hp : hs.map Hd.kv = ps) (hT : ToldD m bs ps c ys) (hz : bs.length + szKs ps ≤ 1048576) :
    Calls Tryz.prog 18 #[.pointer (some ⟨d, 0, none⟩), .agg #[.int .i64 m, .slice bo Lb cb, .slice ho Lh ch]] w fun e w' => ZnP d t.C g i c ok ys w e w' := by
  have hc : c = 0 ∨ c = 1 := by
    rcases hT with ⟨_, q, _⟩ | ⟨_, q, _⟩
    · exact Or.inl q
    · exact Or.inr q
  rcases hc with rfl | rfl
  · cases ok with
    | true => exact znew_true h hN m bo ho Lb cb Lh ch bs hs ps ys hI hLb hH hLh hp hT hz
    | false => exact znew_false h hN m bo ho Lb cb Lh ch bs hs ps ys hI hLb hH hLh hp hT hz
  · exact znew_no h hN m bo ho Lb cb Lh ch bs hs ps ys hI hLb hH hLh hp hT hz
end Go.Proofs.YtdojhkgnnbdfkaaGreat
