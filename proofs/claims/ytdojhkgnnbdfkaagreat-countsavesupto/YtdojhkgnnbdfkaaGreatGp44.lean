/- Texts of this claim laid together, one behind the other: contracts and plain lemmas; conditions as each names them. -/
import Derived.Test.YtdojhkgnnbdfkaaGreatGp43
import Derived.Test.YtdojhkgnnbdfkaaGreatGp30
import Derived.Test.YtdojhkgnnbdfkaaGreatGp6
import Derived.Deep.Slices
import Derived.SizedLaws
import Derived.Deep.RegionWith
import Derived.Deep.LoopGhost
/- The document's New: contracts. Conditions: a disk that is there; at most 2^20 numbers and letters in what is saved. -/
namespace Go.Proofs.YtdojhkgnnbdfkaaGreat
open BigFrame Go.ChangeShapes Go.WideShapes Go.ChangeAt Go.RowKit Go.Lib Go.Maps
set_option linter.unusedVariables false
set_option linter.unusedSimpArgs false

/-- What the document's New answers. -/
def ZnP (d C g i c : Nat) (ok : Bool) (ys : List Nat) (w : World) (e : Ending) (w' : World) : Prop :=
  (newE C g c ys.length ≠ 0 ∧ e = .returned (.tuple #[.pointer none, .int .i64 (newE C g c ys.length)]) ∧ Fr [] w w') ∨
  (newE C g c ys.length = 0 ∧ ∃ tb ab ac, e = .returned (.tuple #[.pointer (some ⟨tb, 0, none⟩), .int .i64 0]) ∧ ZaM w' tb d ab ac (besN i ok) (ckB g ys) 0 ∧ w.heap.size ≤ tb ∧ w.heap.size ≤ ab ∧ Fr [] w w')
set_option maxHeartbeats 1000000 in
theorem znew_nil (m : Int) (bo ho : Option Addr) (Lb cb Lh ch : Nat) (w : World) : Calls Tryz.prog 18 #[.pointer none, .agg #[.int .i64 m, .slice bo Lb cb, .slice ho Lh ch]] w fun e w' => e = .returned (.tuple #[.pointer none, .int .i64 2]) ∧ Fr [] w w' := by
  have HF : Hid (Fr [] w (w.alloc (.cells #[.int .i64 m, .slice bo Lb cb, .slice ho Lh ch] 27))) := Fr.alloc [] w _
  go_enter Tryz.func18, Tryz.ntmps18
  go_wp2
  go_ret2
  exact ⟨rfl, HF.out⟩
theorem za_new {w : World} {d slot ab ac N : Nat} {zs : List Nat} {sv : Int} (hO : w.ownsRow 0 5 1 (.slice (some ⟨ab, 0, none⟩) N ac) N (bts zs)) (hN : N = zs.length) (hl : ∀ x ∈ zs, x < 256) (hf : N ≤ 16777216) (hs : slot ≤ 1) (hsv : sv = (slot : Int)) :
    ZaM (w.alloc (.cells #[.pointer (some ⟨d, 0, none⟩), .int .i64 sv, .slice (some ⟨ab, 0, none⟩) N ac, .int .i64 0] 87)) w.heap.size d ab ac slot zs 0 := by
  subst hN
  subst hsv
  exact ⟨heap_alloc_new w _, by omega, owns_keep hO (Fr.alloc [] _ _) (by simp), hl, hf, hs⟩
set_option maxHeartbeats 2000000 in
theorem znew_no {w0 w : World} {d : Nat} {S : List Nat} {t : Sk} (h : LR w0 w d S t) {ok : Bool} {g i : Nat} {mN : Int} {bN : List Int} {pN : List Kv} (hN : Nw t.s0 t.s1 ok g i mN bN pN)
    (m : Int) (bo ho : Option Addr) (Lb cb Lh ch : Nat) (bs : List Int) (hs : List Hd) (ps : List Kv) (ys : List Nat) (hI : IRs w bo bs) (hLb : Lb = bs.length) (hH : HRs w ho hs) (hLh : Lh = hs.length) (hp : hs.map Hd.kv = ps) (hT : ToldD m bs ps 1 ys) (hz : bs.length + szKs ps ≤ 1048576) :
    Calls Tryz.prog 18 #[.pointer (some ⟨d, 0, none⟩), .agg #[.int .i64 m, .slice bo Lb cb, .slice ho Lh ch]] w fun e w' => ZnP d t.C g i 1 ok ys w e w' := by
  obtain ⟨w1, HW1⟩ : ∃ w1, Hid (w.alloc (.cells #[.int .i64 m, .slice bo Lb cb, .slice ho Lh ch] 27) = w1) := ⟨_, rfl⟩
  have hF1 : Fr [] w w1 := by rw [← HW1.out]; exact Fr.alloc [] w _
  have hb1 : w1.heap[w.heap.size]? = some (.cells #[.int .i64 m, .slice bo Lb cb, .slice ho Lh ch] 27 (0, 0)) := by rw [← HW1.out]; exact heap_alloc_new w _
  obtain ⟨A, hA⟩ : ∃ A, A = w.heap.size := ⟨_, rfl⟩
  rw [← hA] at hb1
  obtain ⟨k0, k1, k2⟩ := sv_cells hb1
  have HF1 : Hid (Fr [] w w1) := hF1
  have hno : ¬ OkS m bs (hs.map Hd.kv) := by
    rw [hp]
    rcases hT with ⟨_, q, _⟩ | ⟨q, _, _⟩
    · cases q
    · exact q
  have HEn : Hid (Calls _ _ _ _ _) := ywencode_no m bo ho Lb cb Lh ch bs hs w1 (hI.keep hF1) hLb (hH.keep hF1) hLh hno
  clear h hN hI hLb hH hLh hp hT hz hb1 hF1 hno
  go_enter Tryz.func18, Tryz.ntmps18
  go_upto_region 1 with fail
  rw [HW1.out, ← hA]
  clear HW1 hA
  go_wp2_with fail
  refine Calls.mono HEn.out ?_
  rintro e w2 ⟨rfl, hF2⟩
  have HR : Hid (ZnP d t.C g i 1 ok ys w (.returned (.tuple #[.pointer none, .int .i64 1])) w2) := Or.inl ⟨by simp [newE], by simp [newE], HF1.out.then hF2⟩
  clear HEn hF2
  go_wp2
  go_ret2
  exact HR.out
set_option maxHeartbeats 8000000 in
set_option maxRecDepth 100000 in
theorem znew_true {w0 w : World} {d : Nat} {S : List Nat} {t : Sk} (h : LR w0 w d S t) {g i : Nat} {mN : Int} {bN : List Int} {pN : List Kv} (hN : Nw t.s0 t.s1 true g i mN bN pN)
    (m : Int) (bo ho : Option Addr) (Lb cb Lh ch : Nat) (bs : List Int) (hs : List Hd) (ps : List Kv) (ys : List Nat) (hI : IRs w bo bs) (hLb : Lb = bs.length) (hH : HRs w ho hs) (hLh : Lh = hs.length) (hp : hs.map Hd.kv = ps) (hT : ToldD m bs ps 0 ys) (hz : bs.length + szKs ps ≤ 1048576) :
    Calls Tryz.prog 18 #[.pointer (some ⟨d, 0, none⟩), .agg #[.int .i64 m, .slice bo Lb cb, .slice ho Lh ch]] w fun e w' => ZnP d t.C g i 0 true ys w e w' := by
  obtain ⟨w1, HW1⟩ : ∃ w1, Hid (w.alloc (.cells #[.int .i64 m, .slice bo Lb cb, .slice ho Lh ch] 27) = w1) := ⟨_, rfl⟩
  have hF1 : Fr [] w w1 := by rw [← HW1.out]; exact Fr.alloc [] w _
  have hb1 : w1.heap[w.heap.size]? = some (.cells #[.int .i64 m, .slice bo Lb cb, .slice ho Lh ch] 27 (0, 0)) := by rw [← HW1.out]; exact heap_alloc_new w _
  obtain ⟨A, hA⟩ : ∃ A, A = w.heap.size := ⟨_, rfl⟩
  rw [← hA] at hb1
  obtain ⟨k0, k1, k2⟩ := sv_cells hb1
  have HF1 : Hid (Fr [] w w1) := hF1
  have hok : OkS m bs ps ∧ ys = encD m bs ps := by
    rcases hT with ⟨q1, _, q2⟩ | ⟨_, q, _⟩
    · exact ⟨q1, q2⟩
    · cases q
  have hyl := hT.len hz
  have hfew := (szKs_few (hs := hs) (by rw [hp]; omega)).1
  obtain ⟨N, hNy⟩ : ∃ N, N = ys.length := ⟨_, rfl⟩
  have HEn : Hid (Calls _ _ _ _ _) := ywencode_ok m bo ho Lb cb Lh ch N bs hs ys w1 (hI.keep hF1) hLb (hH.keep hF1) hLh (by rw [hp]; exact hok.1) (by rw [hp]; exact hok.2) hNy (by omega) (by omega) (by omega)
  have HNy : Hid (N = ys.length) := hNy
  have HYl : Hid (∀ x ∈ ys, x < 256) := by show ∀ x ∈ ys, x < 256; rw [hok.2]; exact encD_lt m bs ps
  have HLD : Hid (∀ W, Fr [] w W → LR w0 W d S t) := fun W hf => h.quiet hf
  have HN : Hid (Nw t.s0 t.s1 true g i mN bN pN) := hN
  have hgi := hN.slot
  have hg62 : g ≤ 4611686018427387904 := hgi.2.1
  have hi1 : i ≤ 1 := by rcases hgi.1 with q | q <;> omega
  have hC : t.C ≤ 16777216 := h.ok.cap
  rw [← hNy] at hyl
  clear h hN hI hLb hH hLh hp hT hz hb1 hF1 hok hfew hNy hgi
  go_enter Tryz.func18, Tryz.ntmps18
  go_upto_region 1 with fail
  rw [HW1.out, ← hA]
  clear HW1 hA
  go_wp2_with fail
  refine Calls.mono HEn.out ?_
  rintro e w2 ⟨a1, c1, rfl, hW2⟩
  have HF2 : Hid (Fr [] w w2) := HF1.out.then hW2.fr
  have HB2 : Hid (∀ W, Fr [] w2 W → BArg W a1 N c1 ys) := fun W hf => (own_arg (own_base hW2.row.2 (Nat.zero_le _)) HYl.out (by omega)).keep hf
  have HNe : Hid (Calls _ _ _ _ _) := znewest_any (HLD.out _ HF2.out)
  clear HEn hW2 k0 k1 k2
  go_wp2_with fail
  refine Calls.mono HNe.out ?_
  rintro e w3 ⟨ok2, g2, i2, m2, bo2, Lb2, cb2, ho2, Lh2, ch2, bs2, hs2, rfl, hN2, hSv2, hF3⟩
  obtain ⟨e1, e2, e3, -, -, -⟩ := hN2.uniq HN.out
  subst e1
  subst e2
  subst e3
  obtain ⟨w4, HW4⟩ : ∃ w4, Hid (w3.alloc (.cells #[.int .i64 m2, .slice bo2 Lb2 cb2, .slice ho2 Lh2 ch2] 27) = w4) := ⟨_, rfl⟩
  have hF4 : Fr [] w3 w4 := by rw [← HW4.out]; exact Fr.alloc [] w3 _
  have HF4 : Hid (Fr [] w w4 ∧ Fr [] w2 w4) := ⟨HF2.out.then (hF3.then hF4), hF3.then hF4⟩
  clear HNe hN2 hSv2 hF3 hF4
  go_upto_region 7 with fail
  rw [HW4.out]
  clear HW4
  by_cases hg : g2 = 4611686018427387904
  · have hge : ((g2 : Int) == 4611686018427387904) = true := by simp; omega
    have HR : Hid (ZnP d t.C g2 i2 0 true ys w (.returned (.tuple #[.pointer none, .int .i64 3])) w4) := Or.inl ⟨by simp [newE, hg], by simp [newE, hg], HF4.out.1⟩
    clear hg
    go_wp2
    go_ret2
    exact HR.out
  · have hge : ((g2 : Int) == 4611686018427387904) = false := by simp; omega
    obtain ⟨C, HC⟩ : ∃ C, Hid (t.C = C) := ⟨_, rfl⟩
    rw [HC.out] at hC
    have hwg : IntKind.u64.wrap (g2 : Int) = (g2 : Int) := by rw [wr_u64]; omega
    have hBy := zbytes_any (g2 + 1) a1 N c1 ys w4 (HB2.out _ HF4.out.2) (by omega) (by omega)
    rw [show ((g2 + 1 : Nat) : Int) = (g2 : Int) + 1 from by omega] at hBy
    have HBy : Hid (Calls _ _ _ _ _) := hBy
    clear hBy
    go_wp2_with fail
    refine Calls.mono HBy.out ?_
    rintro e w5 ⟨zo, zc, rfl, hW5⟩
    have HF5 : Hid (Fr [] w w5) := HF4.out.1.then hW5.fr
    have HO5 : Hid (w5.ownsRow 0 5 1 (.slice zo (20 + N) zc) (20 + N) (bts (ckB g2 ys))) := own_base hW5.row.2 (Nat.zero_le _)
    have HZo : Hid (∃ ab, zo = some ⟨ab, 0, none⟩ ∧ w.heap.size ≤ ab) := by
      rcases hW5.row.2.2 with ⟨hh, q⟩ | ⟨q, cp, cur, hh, hb, _⟩
      · omega
      · cases hh
        exact ⟨q, rfl, Nat.le_trans HF4.out.1.size hb⟩
    have HCa : Hid (Calls _ _ _ _ _) := lr_capacity (HLD.out _ HF5.out) HC.out
    clear HBy hW5
    go_wp2_with fail
    refine Calls.mono HCa.out ?_
    rintro e w6 ⟨rfl, rfl⟩
    clear HCa
    by_cases hsp : C < 20 + N
    · have hsp' : (C : Int) < 20 + (N : Int) := by omega
      have HR : Hid (ZnP d t.C g2 i2 0 true ys w (.returned (.tuple #[.pointer none, .int .i64 13])) w5) := by
        have e9 : newE t.C g2 0 ys.length = 13 := by
          have := HNy.out
          unfold newE
          rw [if_neg (by simp), if_neg hg, if_pos (by rw [HC.out]; omega)]
        exact Or.inl ⟨by rw [e9]; decide, by rw [e9], HF5.out⟩
      go_wp2
      go_ret2
      exact HR.out
    · have hsp' : ¬ (C : Int) < 20 + (N : Int) := by omega
      have HR : Hid (ZnP d t.C g2 i2 0 true ys w (.returned (.tuple #[.pointer (some ⟨w5.heap.size, 0, none⟩), .int .i64 0])) (w5.alloc (.cells #[.pointer (some ⟨d, 0, none⟩), .int .i64 (1 - (i2 : Int)), .slice zo (20 + N) zc, .int .i64 0] 87))) := by
        obtain ⟨ab, rfl, hab⟩ := HZo.out
        have e9 : newE t.C g2 0 ys.length = 0 := by
          have := HNy.out
          unfold newE
          rw [if_neg (by simp), if_neg hg, if_neg (by rw [HC.out]; omega)]
        refine Or.inr ⟨e9, w5.heap.size, ab, zc, rfl, za_new HO5.out (by rw [ckB_length, ← HNy.out]) (app_lt (hdB_lt _ _) HYl.out) (by omega) (besN_le _ _) ?_, HF5.out.size, hab, HF5.out.then (Fr.alloc [] _ _)⟩
        simp [besN]; omega
      go_wp2
      go_ret2
      exact HR.out
set_option maxHeartbeats 8000000 in
set_option maxRecDepth 100000 in
theorem znew_false {w0 w : World} {d : Nat} {S : List Nat} {t : Sk} (h : LR w0 w d S t) {g i : Nat} {mN : Int} {bN : List Int} {pN : List Kv} (hN : Nw t.s0 t.s1 false g i mN bN pN)
    (m : Int) (bo ho : Option Addr) (Lb cb Lh ch : Nat) (bs : List Int) (hs : List Hd) (ps : List Kv) (ys : List Nat) (hI : IRs w bo bs) (hLb : Lb = bs.length) (hH : HRs w ho hs) (hLh : Lh = hs.length) (hp : hs.map Hd.kv = ps) (hT : ToldD m bs ps 0 ys) (hz : bs.length + szKs ps ≤ 1048576) :
    Calls Tryz.prog 18 #[.pointer (some ⟨d, 0, none⟩), .agg #[.int .i64 m, .slice bo Lb cb, .slice ho Lh ch]] w fun e w' => ZnP d t.C g i 0 false ys w e w' := by
  obtain ⟨w1, HW1⟩ : ∃ w1, Hid (w.alloc (.cells #[.int .i64 m, .slice bo Lb cb, .slice ho Lh ch] 27) = w1) := ⟨_, rfl⟩
  have hF1 : Fr [] w w1 := by rw [← HW1.out]; exact Fr.alloc [] w _
  have hb1 : w1.heap[w.heap.size]? = some (.cells #[.int .i64 m, .slice bo Lb cb, .slice ho Lh ch] 27 (0, 0)) := by rw [← HW1.out]; exact heap_alloc_new w _
  obtain ⟨A, hA⟩ : ∃ A, A = w.heap.size := ⟨_, rfl⟩
  rw [← hA] at hb1
  obtain ⟨k0, k1, k2⟩ := sv_cells hb1
  have HF1 : Hid (Fr [] w w1) := hF1
  have hok : OkS m bs ps ∧ ys = encD m bs ps := by
    rcases hT with ⟨q1, _, q2⟩ | ⟨_, q, _⟩
    · exact ⟨q1, q2⟩
    · cases q
  have hyl := hT.len hz
  have hfew := (szKs_few (hs := hs) (by rw [hp]; omega)).1
  obtain ⟨N, hNy⟩ : ∃ N, N = ys.length := ⟨_, rfl⟩
  have HEn : Hid (Calls _ _ _ _ _) := ywencode_ok m bo ho Lb cb Lh ch N bs hs ys w1 (hI.keep hF1) hLb (hH.keep hF1) hLh (by rw [hp]; exact hok.1) (by rw [hp]; exact hok.2) hNy (by omega) (by omega) (by omega)
  have HNy : Hid (N = ys.length) := hNy
  have HYl : Hid (∀ x ∈ ys, x < 256) := by show ∀ x ∈ ys, x < 256; rw [hok.2]; exact encD_lt m bs ps
  have HLD : Hid (∀ W, Fr [] w W → LR w0 W d S t) := fun W hf => h.quiet hf
  have HN : Hid (Nw t.s0 t.s1 false g i mN bN pN) := hN
  have hgi := hN.slot
  have hg62 : g ≤ 4611686018427387904 := hgi.2.1
  have hi1 : i ≤ 1 := by rcases hgi.1 with q | q <;> omega
  have hg0 : g = 0 ∧ i = 0 := by
    rcases hN with ⟨q1, q2, _⟩ | ⟨q1, q2, _, _, _, _, _, _, q3⟩
    · rcases q2 with ⟨r1, _⟩ | ⟨_, r2, _⟩
      · cases r1
      · exact ⟨r2, q1⟩
    · rcases q2 with ⟨r1, _⟩ | ⟨_, r2, _⟩
      · cases r1
      · omega
  have HG0 : Hid (g = 0 ∧ i = 0) := hg0
  have hC : t.C ≤ 16777216 := h.ok.cap
  rw [← hNy] at hyl
  clear h hN hI hLb hH hLh hp hT hz hb1 hF1 hok hfew hNy hgi hg0
  go_enter Tryz.func18, Tryz.ntmps18
  go_upto_region 1 with fail
  rw [HW1.out, ← hA]
  clear HW1 hA
  go_wp2_with fail
  refine Calls.mono HEn.out ?_
  rintro e w2 ⟨a1, c1, rfl, hW2⟩
  have HF2 : Hid (Fr [] w w2) := HF1.out.then hW2.fr
  have HB2 : Hid (∀ W, Fr [] w2 W → BArg W a1 N c1 ys) := fun W hf => (own_arg (own_base hW2.row.2 (Nat.zero_le _)) HYl.out (by omega)).keep hf
  have HNe : Hid (Calls _ _ _ _ _) := znewest_any (HLD.out _ HF2.out)
  clear HEn hW2 k0 k1 k2
  go_wp2_with fail
  refine Calls.mono HNe.out ?_
  rintro e w3 ⟨ok2, g2, i2, m2, bo2, Lb2, cb2, ho2, Lh2, ch2, bs2, hs2, rfl, hN2, hSv2, hF3⟩
  obtain ⟨e1, e2, e3, -, -, -⟩ := hN2.uniq HN.out
  subst e1
  subst e2
  subst e3
  obtain ⟨w4, HW4⟩ : ∃ w4, Hid (w3.alloc (.cells #[.int .i64 m2, .slice bo2 Lb2 cb2, .slice ho2 Lh2 ch2] 27) = w4) := ⟨_, rfl⟩
  have hF4 : Fr [] w3 w4 := by rw [← HW4.out]; exact Fr.alloc [] w3 _
  have HF4 : Hid (Fr [] w w4 ∧ Fr [] w2 w4) := ⟨HF2.out.then (hF3.then hF4), hF3.then hF4⟩
  clear HNe hN2 hSv2 hF3 hF4
  go_upto_region 7 with fail
  rw [HW4.out]
  clear HW4
  by_cases hg : g2 = 4611686018427387904
  · have hge : ((g2 : Int) == 4611686018427387904) = true := by simp; omega
    have HR : Hid (ZnP d t.C g2 i2 0 false ys w (.returned (.tuple #[.pointer none, .int .i64 3])) w4) := Or.inl ⟨by simp [newE, hg], by simp [newE, hg], HF4.out.1⟩
    clear hg
    go_wp2
    go_ret2
    exact HR.out
  · have hge : ((g2 : Int) == 4611686018427387904) = false := by simp; omega
    obtain ⟨C, HC⟩ : ∃ C, Hid (t.C = C) := ⟨_, rfl⟩
    rw [HC.out] at hC
    have hwg : IntKind.u64.wrap (g2 : Int) = (g2 : Int) := by rw [wr_u64]; omega
    have hBy := zbytes_any (g2 + 1) a1 N c1 ys w4 (HB2.out _ HF4.out.2) (by omega) (by omega)
    rw [show ((g2 + 1 : Nat) : Int) = (g2 : Int) + 1 from by omega] at hBy
    have HBy : Hid (Calls _ _ _ _ _) := hBy
    clear hBy
    go_wp2_with fail
    refine Calls.mono HBy.out ?_
    rintro e w5 ⟨zo, zc, rfl, hW5⟩
    have HF5 : Hid (Fr [] w w5) := HF4.out.1.then hW5.fr
    have HO5 : Hid (w5.ownsRow 0 5 1 (.slice zo (20 + N) zc) (20 + N) (bts (ckB g2 ys))) := own_base hW5.row.2 (Nat.zero_le _)
    have HZo : Hid (∃ ab, zo = some ⟨ab, 0, none⟩ ∧ w.heap.size ≤ ab) := by
      rcases hW5.row.2.2 with ⟨hh, q⟩ | ⟨q, cp, cur, hh, hb, _⟩
      · omega
      · cases hh
        exact ⟨q, rfl, Nat.le_trans HF4.out.1.size hb⟩
    have HCa : Hid (Calls _ _ _ _ _) := lr_capacity (HLD.out _ HF5.out) HC.out
    clear HBy hW5
    go_wp2_with fail
    refine Calls.mono HCa.out ?_
    rintro e w6 ⟨rfl, rfl⟩
    clear HCa
    by_cases hsp : C < 20 + N
    · have hsp' : (C : Int) < 20 + (N : Int) := by omega
      have HR : Hid (ZnP d t.C g2 i2 0 false ys w (.returned (.tuple #[.pointer none, .int .i64 13])) w5) := by
        have e9 : newE t.C g2 0 ys.length = 13 := by
          have := HNy.out
          unfold newE
          rw [if_neg (by simp), if_neg hg, if_pos (by rw [HC.out]; omega)]
        exact Or.inl ⟨by rw [e9]; decide, by rw [e9], HF5.out⟩
      go_wp2
      go_ret2
      exact HR.out
    · have hsp' : ¬ (C : Int) < 20 + (N : Int) := by omega
      have HR : Hid (ZnP d t.C g2 i2 0 false ys w (.returned (.tuple #[.pointer (some ⟨w5.heap.size, 0, none⟩), .int .i64 0])) (w5.alloc (.cells #[.pointer (some ⟨d, 0, none⟩), .int .i64 (i2), .slice zo (20 + N) zc, .int .i64 0] 87))) := by
        obtain ⟨ab, rfl, hab⟩ := HZo.out
        have e9 : newE t.C g2 0 ys.length = 0 := by
          have := HNy.out
          unfold newE
          rw [if_neg (by simp), if_neg hg, if_neg (by rw [HC.out]; omega)]
        refine Or.inr ⟨e9, w5.heap.size, ab, zc, rfl, za_new HO5.out (by rw [ckB_length, ← HNy.out]) (app_lt (hdB_lt _ _) HYl.out) (by omega) (besN_le _ _) ?_, HF5.out.size, hab, HF5.out.then (Fr.alloc [] _ _)⟩
        have := HG0.out; simp [besN]; omega
      go_wp2
      go_ret2
      exact HR.out
theorem znew_any {w0 w : World} {d : Nat} {S : List Nat} {t : Sk} (h : LR w0 w d S t) {ok : Bool} {g i : Nat} {mN : Int} {bN : List Int} {pN : List Kv} (hN : Nw t.s0 t.s1 ok g i mN bN pN)
    (m : Int) (bo ho : Option Addr) (Lb cb Lh ch c : Nat) (bs : List Int) (hs : List Hd) (ps : List Kv) (ys : List Nat) (hI : IRs w bo bs) (hLb : Lb = bs.length) (hH : HRs w ho hs) (hLh : Lh = hs.length) (hp : hs.map Hd.kv = ps) (hT : ToldD m bs ps c ys) (hz : bs.length + szKs ps ≤ 1048576) :
    Calls Tryz.prog 18 #[.pointer (some ⟨d, 0, none⟩), .agg #[.int .i64 m, .slice bo Lb cb, .slice ho Lh ch]] w fun e w' => ZnP d t.C g i c ok ys w e w' := by
  have hc : c = 0 ∨ c = 1 := by
    rcases hT with ⟨_, q, _⟩ | ⟨_, q, _⟩
    · exact Or.inl q
    · exact Or.inr q
  rcases hc with rfl | rfl
  · cases ok with
    | true => exact znew_true h hN m bo ho Lb cb Lh ch bs hs ps ys hI hLb hH hLh hp hT hz
    | false => exact znew_false h hN m bo ho Lb cb Lh ch bs hs ps ys hI hLb hH hLh hp hT hz
  · exact znew_no h hN m bo ho Lb cb Lh ch bs hs ps ys hI hLb hH hLh hp hT hz
end Go.Proofs.YtdojhkgnnbdfkaaGreat
/- Transactions as plain things. Plain lemmas. -/
namespace Go.Proofs.YtdojhkgnnbdfkaaGreat.Q
open Go.ChangeShapes Go.WideShapes Go.ChangeAt Go.RowKit Go.Lib

/-- A write. -/
structure Wt where
  key : ByteArray
  val : ByteArray
  drop : Bool

def noS : ByteArray := ⟨#[]⟩
theorem noS_iff (s : ByteArray) : s.size = 0 ↔ s = noS := by
  constructor
  · intro h
    cases s with
    | mk d =>
      have hd : d.size = 0 := h
      have : d = #[] := Array.eq_empty_of_size_eq_zero hd
      rw [this]
      rfl
  · rintro rfl
    rfl

/-- May a write be? -/
def okW (x : Wt) : Prop := 1 ≤ x.key.size ∧ x.key.size ≤ 64 ∧ x.val.size ≤ 1024 ∧ (x.drop = true → x.val = noS)
/-- May a transaction be? -/
def okT (n : Int) (ws : List Wt) : Prop := 1 ≤ n ∧ n ≤ 65536 ∧ ws.length ≤ 32 ∧ ∀ x ∈ ws, okW x

def refN (n : Nat) : Nat := if n < 1 ∨ 65536 < n then 1 else 0
def refC (n : Nat) : Nat := if 32 < n then 3 else 0
def refK (s : ByteArray) : Nat := if s.size = 0 then 1 else 0
def refD (n : Nat) : Nat := if n = 0 ∨ n = 1 then 0 else 4
def refV (_ : ByteArray) : Nat := 0
theorem drop_left (a b : List Nat) : (a ++ b).drop a.length = b := List.drop_left
theorem take_low (a b : List Nat) (k : Nat) (h : k < a.length) : (a ++ b).take k = a.take k := by
  rw [List.take_append_of_le_length (by omega)]
theorem take_high (a b : List Nat) (k : Nat) (h : a.length ≤ k) : (a ++ b).take k = a ++ b.take (k - a.length) := by
  rw [List.take_append, List.take_of_length_le h]

theorem refK_ok {x : Wt} (h : okW x) : refK x.key = 0 := by
  unfold refK
  rw [if_neg (by have := h.1; omega)]

theorem refN_ok {n : Nat} {ws : List Wt} (h : okT (n : Int) ws) : refN n = 0 := by
  unfold refN
  rw [if_neg (by have := h.1; have := h.2.1; omega)]
theorem refC_ok {n : Int} {ws : List Wt} (h : okT n ws) : refC ws.length = 0 := by
  unfold refC
  rw [if_neg (by have := h.2.2.1; omega)]
/-! ### What is taken is told again -/
theorem lt_drop {xs : List Nat} (hb : ∀ x ∈ xs, x < 256) (k : Nat) : ∀ x ∈ xs.drop k, x < 256 := fun x hx => hb x (List.mem_of_mem_drop hx)
/-! ### Errors are none of OK -/
end Go.Proofs.YtdojhkgnnbdfkaaGreat.Q
/- Writes in memory: cells, slices of writes that read as a list, structs of a transaction. Conditions as each lemma names them. -/
namespace Go.Proofs.YtdojhkgnnbdfkaaGreat.Q
open Go.ChangeShapes Go.WideShapes Go.ChangeAt Go.RowKit Go.Lib

def Wt.zero : Wt := ⟨noS, noS, false⟩
/-- A write's cells. -/
def wtC (x : Wt) : List Value := [.string x.key, .string x.val, .bool x.drop]
def wtsC : List Wt → List Value
  | [] => []
  | x :: r => wtC x ++ wtsC r
theorem wtsC_append (a b : List Wt) : wtsC (a ++ b) = wtsC a ++ wtsC b := by
  induction a with
  | nil => rfl
  | cons v r ih => simp [wtsC, ih]
theorem wtsC_length (a : List Wt) : (wtsC a).length = a.length * 3 := by
  induction a with
  | nil => rfl
  | cons v r ih => simp only [wtsC, wtC, List.length_append, List.length_cons, List.length_nil, ih]; omega
theorem wtsC_get (a : List Wt) (j c : Nat) (hj : j < a.length) (hc : c < 3) : (wtsC a)[j * 3 + c]? = (wtC (a.getD j Wt.zero))[c]? := by
  induction a generalizing j with
  | nil => simp at hj
  | cons v r ih =>
    cases j with
    | zero =>
      simp only [wtsC, Nat.zero_mul, Nat.zero_add]
      rw [List.getElem?_append_left (by simp [wtC]; omega)]
      simp
    | succ j =>
      simp only [wtsC]
      rw [List.getElem?_append_right (by simp [wtC]; omega)]
      have e : (j + 1) * 3 + c - (wtC v).length = j * 3 + c := by simp [wtC]; omega
      rw [e, ih j (by simpa using hj)]
      simp
theorem wtsC_oneCell (a : List Wt) : ∀ u ∈ wtsC a, u.oneCell' = true := by
  induction a with
  | nil => intro u hu; simp [wtsC] at hu
  | cons v r ih =>
    intro u hu
    rcases List.mem_append.1 hu with h | h
    · simp only [wtC, List.mem_cons, List.not_mem_nil, or_false] at h
      rcases h with rfl | rfl | rfl <;> rfl
    · exact ih u h

/-- A write lies at o in block b. -/
structure WAt (w : World) (b o : Nat) (x : Wt) : Prop where
  c0 : w.cell? ⟨b, o, none⟩ = some (.string x.key)
  c1 : w.cell? ⟨b, o + 1, none⟩ = some (.string x.val)
  c2 : w.cell? ⟨b, o + 2, none⟩ = some (.bool x.drop)
/-- The slice at ao reads as the writes ws. -/
structure WRs (w : World) (ao : Option Addr) (ws : List Wt) : Prop where
  lies : 0 < ws.length → ∃ b off, ao = some ⟨b, off, none⟩ ∧ b < w.heap.size ∧ ∀ i, i < ws.length → WAt w b (off + i * 3) (ws.getD i Wt.zero)
  few : ws.length ≤ 140737488355328
  each : ∀ x ∈ ws, x.key.size ≤ 140737488355328 ∧ x.val.size ≤ 140737488355328
theorem WRs.nil (w : World) (ao : Option Addr) : WRs w ao [] := ⟨fun h => by simp at h, by simp, by simp⟩
theorem WRs.keepS {S : List Nat} {w w' : World} {ao : Option Addr} {ws : List Wt} (h : WRs w ao ws) (hf : Fr S w w') (hn : 0 < ws.length → ∀ a, ao = some a → a.block ∉ S) : WRs w' ao ws := by
  refine ⟨fun h0 => ?_, h.few, h.each⟩
  obtain ⟨b, off, e, hb, hc⟩ := h.lies h0
  have hk : ∀ o, w'.cell? ⟨b, o, none⟩ = w.cell? ⟨b, o, none⟩ := fun o => World.cell?_of_block (hf.block b hb (hn h0 _ e))
  exact ⟨b, off, e, Nat.lt_of_lt_of_le hb hf.size, fun i hi => ⟨(hk _).trans (hc i hi).c0, (hk _).trans (hc i hi).c1, (hk _).trans (hc i hi).c2⟩⟩
theorem WRs.keep {w w' : World} {ao : Option Addr} {ws : List Wt} (h : WRs w ao ws) (hf : Fr [] w w') : WRs w' ao ws := h.keepS hf (by simp)
theorem WRs.of_row {w : World} {b : Nat} {ws : List Wt} {rest : List Value} {t : TypeId} {f : Nat × Nat} (h : w.heap[b]? = some (.cells (wtsC ws ++ rest).toArray t f)) (hl : ws.length ≤ 140737488355328) (he : ∀ x ∈ ws, x.key.size ≤ 140737488355328 ∧ x.val.size ≤ 140737488355328) : WRs w (some ⟨b, 0, none⟩) ws := by
  refine ⟨fun _ => ⟨b, 0, rfl, lt_of_block h, fun i hi => ?_⟩, hl, he⟩
  have key : ∀ c, c < 3 → w.cell? ⟨b, 0 + i * 3 + c, none⟩ = (wtC (ws.getD i Wt.zero))[c]? := by
    intro c hc
    rw [cell_of_row _ _ _ _ _ _ h, Nat.zero_add, ← wtsC_get ws i c hi hc]
    have hlt : i * 3 + c < (wtsC ws).length := by rw [wtsC_length]; omega
    simp [List.getElem?_append_left hlt]
  exact ⟨key 0 (by omega), key 1 (by omega), key 2 (by omega)⟩
theorem wgetD_mem (ws : List Wt) (i : Nat) (h : i < ws.length) : ws.getD i Wt.zero ∈ ws := by simp [List.getD, h]
theorem wtake_snoc (ws : List Wt) (i : Nat) (h : i < ws.length) : ws.take (i + 1) = ws.take i ++ [ws.getD i Wt.zero] := by
  rw [List.take_add_one]
  simp [List.getD, h]

/-- A transaction as a value. -/
def txV (n : Int) (ao : Option Addr) (L cap : Nat) : Value := .agg #[.int .i64 n, .slice ao L cap]

theorem tl_nil (s : ByteArray) : s.toList = [] ↔ s.size = 0 := by
  rw [ByteArray.toList_eq]
  constructor
  · intro h
    have h2 := congrArg List.length h
    simpa [Array.length_toList] using h2
  · intro h
    have h2 : s.data.toList.length = 0 := by rw [Array.length_toList]; exact h
    exact List.eq_nil_of_length_eq_zero h2
theorem tl_inj (a b : ByteArray) : a.toList = b.toList ↔ a = b := by
  rw [ByteArray.toList_eq, ByteArray.toList_eq]
  constructor
  · intro h
    exact bytes_inj h
  · rintro rfl
    rfl
theorem okW_iff (key val : ByteArray) (drop : Bool) : okW ⟨key, val, drop⟩ ↔ (¬ key.toList = []) ∧ (key.size : Int) ≤ 64 ∧ (val.size : Int) ≤ 1024 ∧ (drop = true → val.toList = []) := by
  unfold okW
  rw [tl_nil, tl_nil, ← noS_iff]
  simp only
  constructor
  · rintro ⟨h1, h2, h3, h4⟩
    exact ⟨by omega, by omega, by omega, h4⟩
  · rintro ⟨h1, h2, h3, h4⟩
    exact ⟨by omega, by omega, by omega, h4⟩
end Go.Proofs.YtdojhkgnnbdfkaaGreat.Q
