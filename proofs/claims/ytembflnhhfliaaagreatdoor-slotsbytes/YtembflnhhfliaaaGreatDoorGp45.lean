/- Contracts and plain lemmas of this claim. -/
import Derived.Test.YtembflnhhfliaaaGreatDoorGp44
import Derived.Test.YtembflnhhfliaaaGreatDoorGp31
set_option linter.unusedSimpArgs false
set_option linter.unusedVariables false
set_option maxHeartbeats 8000000
set_option maxRecDepth 100000
namespace Go.Proofs.YtembflnhhfliaaaGreatDoor
open BigFrame Go.ChangeShapes Go.WideShapes Go.ChangeAt Go.RowKit Go.Lib Go.Maps
def ZnP (d C g i c : Nat) (ok : Bool) (ys : List Nat) (w : World) (e : Ending) (w' : World) : Prop :=
  (newE C g c ys.length ≠ 0 /\ e = .returned (.tuple #[.pointer none, .int .i64 (newE C g c ys.length)]) /\ Fr [] w w') \/
  (newE C g c ys.length = 0 /\ ∃ tb ab ac, e = .returned (.tuple #[.pointer (some ⟨tb, 0, none⟩), .int .i64 0]) /\ ZaM w' tb d ab ac (besN i ok) (ckB g ys) 0 /\ w.heap.size <= tb /\ w.heap.size <= ab /\ Fr [] w w')
theorem zve {w : World} {d slot ab ac N : Nat} {zs : List Nat} {sv : Int} (hO : w.ownsRow 0 5 1 (.slice (some ⟨ab, 0, none⟩) N ac) N (bts zs)) (hN : N = zs.length) (hl : ∀ x ∈ zs, x < 256) (hf : N <= 16777216) (hs : slot <= 1) (hsv : sv = (slot : Int)) :
    ZaM (w.alloc (.cells #[.pointer (some ⟨d, 0, none⟩), .int .i64 sv, .slice (some ⟨ab, 0, none⟩) N ac, .int .i64 0] 99)) w.heap.size d ab ac slot zs 0 := by
  subst hN
  subst hsv
  exact ⟨heap_alloc_new w _, by omega, zab hO (Fr.alloc [] _ _) (by simp), hl, hf, hs⟩
theorem zyv {w0 w : World} {d : Nat} {S : List Nat} {t : Sk} (h : LR w0 w d S t) {ok : Bool} {g i : Nat} {mN : Int} {bN : List Int} {pN : List Kv} (hN : Nw t.s0 t.s1 ok g i mN bN pN)
    (m : Int) (bo ho : Option Addr) (Lb cb Lh ch : Nat) (bs : List Int) (hs : List Hd) (ps : List Kv) (ys : List Nat) (hI : IRs w bo bs) (hLb : Lb = bs.length) (hH : HRs w ho hs) (hLh : Lh = hs.length) (hp : hs.map Hd.kv = ps) (hT : ToldD m bs ps 1 ys) (hz : bs.length + szKs ps <= 1048576) :
    Calls Tryz.prog 16 #[.pointer (some ⟨d, 0, none⟩), .agg #[.int .i64 m, .slice bo Lb cb, .slice ho Lh ch]] w fun e w' => ZnP d t.C g i 1 ok ys w e w' := by
  obtain ⟨w1, HW1⟩ : ∃ w1, Hid (w.alloc (.cells #[.int .i64 m, .slice bo Lb cb, .slice ho Lh ch] 57) = w1) := ⟨_, rfl⟩
  have hF1 : Fr [] w w1 := by rw [<- HW1.out]; exact Fr.alloc [] w _
  have hb1 : w1.heap[w.heap.size]? = some (.cells #[.int .i64 m, .slice bo Lb cb, .slice ho Lh ch] 57 (0, 0)) := by rw [<- HW1.out]; exact heap_alloc_new w _
  obtain ⟨A, hA⟩ : ∃ A, A = w.heap.size := ⟨_, rfl⟩
  rw [<- hA] at hb1
  obtain ⟨k0, k1, k2⟩ := zai hb1
  have HF1 : Hid (Fr [] w w1) := hF1
  have hno : ¬ OkS m bs (hs.map Hd.kv) := by
    rw [hp]
    rcases hT with ⟨_, q, _⟩ | ⟨q, _, _⟩
    · cases q
    · exact q
  have HEn : Hid (Calls _ _ _ _ _) := zpg m bo ho Lb cb Lh ch bs hs w1 (hI.keep hF1) hLb (hH.keep hF1) hLh hno
  clear h hN hI hLb hH hLh hp hT hz hb1 hF1 hno
  go_enter Tryz.func16, Tryz.ntmps16
  go_upto_region 1 with fail
  rw [HW1.out, <- hA]
  clear HW1 hA
  go_wp2_with fail
  refine Calls.mono HEn.out ?_
  rintro e w2 ⟨rfl, hF2⟩
  have HR : Hid (ZnP d t.C g i 1 ok ys w (.returned (.tuple #[.pointer none, .int .i64 1])) w2) := Or.inl ⟨by simp [newE], by simp [newE], HF1.out.then hF2⟩
  clear HEn hF2
  go_wp2
  go_ret2
  exact HR.out
theorem zvf {w0 w : World} {d : Nat} {S : List Nat} {t : Sk} (h : LR w0 w d S t) {g i : Nat} {mN : Int} {bN : List Int} {pN : List Kv} (hN : Nw t.s0 t.s1 true g i mN bN pN)
    (m : Int) (bo ho : Option Addr) (Lb cb Lh ch : Nat) (bs : List Int) (hs : List Hd) (ps : List Kv) (ys : List Nat) (hI : IRs w bo bs) (hLb : Lb = bs.length) (hH : HRs w ho hs) (hLh : Lh = hs.length) (hp : hs.map Hd.kv = ps) (hT : ToldD m bs ps 0 ys) (hz : bs.length + szKs ps <= 1048576) :
    Calls Tryz.prog 16 #[.pointer (some ⟨d, 0, none⟩), .agg #[.int .i64 m, .slice bo Lb cb, .slice ho Lh ch]] w fun e w' => ZnP d t.C g i 0 true ys w e w' := by
  obtain ⟨w1, HW1⟩ : ∃ w1, Hid (w.alloc (.cells #[.int .i64 m, .slice bo Lb cb, .slice ho Lh ch] 57) = w1) := ⟨_, rfl⟩
  have hF1 : Fr [] w w1 := by rw [<- HW1.out]; exact Fr.alloc [] w _
  have hb1 : w1.heap[w.heap.size]? = some (.cells #[.int .i64 m, .slice bo Lb cb, .slice ho Lh ch] 57 (0, 0)) := by rw [<- HW1.out]; exact heap_alloc_new w _
  obtain ⟨A, hA⟩ : ∃ A, A = w.heap.size := ⟨_, rfl⟩
  rw [<- hA] at hb1
  obtain ⟨k0, k1, k2⟩ := zai hb1
  have HF1 : Hid (Fr [] w w1) := hF1
  have hok : OkS m bs ps /\ ys = encD m bs ps := by
    rcases hT with ⟨q1, _, q2⟩ | ⟨_, q, _⟩
    · exact ⟨q1, q2⟩
    · cases q
  have hyl := hT.len hz
  have hfew := (zgv (hs := hs) (by rw [hp]; omega)).1
  obtain ⟨N, hNy⟩ : ∃ N, N = ys.length := ⟨_, rfl⟩
  have HEn : Hid (Calls _ _ _ _ _) := ziq m bo ho Lb cb Lh ch N bs hs ys w1 (hI.keep hF1) hLb (hH.keep hF1) hLh (by rw [hp]; exact hok.1) (by rw [hp]; exact hok.2) hNy (by omega) (by omega) (by omega)
  have HNy : Hid (N = ys.length) := hNy
  have HYl : Hid (∀ x ∈ ys, x < 256) := by show ∀ x ∈ ys, x < 256; rw [hok.2]; exact zlb m bs ps
  have HLD : Hid (∀ W, Fr [] w W -> LR w0 W d S t) := fun W hf => h.quiet hf
  have HN : Hid (Nw t.s0 t.s1 true g i mN bN pN) := hN
  have hgi := hN.slot
  have hg62 : g <= 4611686018427387904 := hgi.2.1
  have hi1 : i <= 1 := by rcases hgi.1 with q | q <;> omega
  have hC : t.C <= 16777216 := h.ok.cap
  rw [<- hNy] at hyl
  clear h hN hI hLb hH hLh hp hT hz hb1 hF1 hok hfew hNy hgi
  go_enter Tryz.func16, Tryz.ntmps16
  go_upto_region 1 with fail
  rw [HW1.out, <- hA]
  clear HW1 hA
  go_wp2_with fail
  refine Calls.mono HEn.out ?_
  rintro e w2 ⟨a1, c1, rfl, hW2⟩
  have HF2 : Hid (Fr [] w w2) := HF1.out.then hW2.fr
  have HB2 : Hid (∀ W, Fr [] w2 W -> BArg W a1 N c1 ys) := fun W hf => (zbr (zby hW2.row.2 (Nat.zero_le _)) HYl.out (by omega)).keep hf
  have HNe : Hid (Calls _ _ _ _ _) := zfo (HLD.out _ HF2.out)
  clear HEn hW2 k0 k1 k2
  go_wp2_with fail
  refine Calls.mono HNe.out ?_
  rintro e w3 ⟨ok2, g2, i2, m2, bo2, Lb2, cb2, ho2, Lh2, ch2, bs2, hs2, rfl, hN2, hSv2, hF3⟩
  obtain ⟨e1, e2, e3, -, -, -⟩ := hN2.uniq HN.out
  subst e1
  subst e2
  subst e3
  obtain ⟨w4, HW4⟩ : ∃ w4, Hid (w3.alloc (.cells #[.int .i64 m2, .slice bo2 Lb2 cb2, .slice ho2 Lh2 ch2] 57) = w4) := ⟨_, rfl⟩
  have hF4 : Fr [] w3 w4 := by rw [<- HW4.out]; exact Fr.alloc [] w3 _
  have HF4 : Hid (Fr [] w w4 /\ Fr [] w2 w4) := ⟨HF2.out.then (hF3.then hF4), hF3.then hF4⟩
  clear HNe hN2 hSv2 hF3 hF4
  go_upto_region 7 with fail
  rw [HW4.out]
  clear HW4
  by_cases hg : g2 = 4611686018427387904
  · have hge : ((g2 : Int) == 4611686018427387904) = true := by simp; omega
    have HR : Hid (ZnP d t.C g2 i2 0 true ys w (.returned (.tuple #[.pointer none, .int .i64 3])) w4) := Or.inl ⟨by simp [newE, hg], by simp [newE, hg], HF4.out.1⟩
    clear hg
    go_wp2
    go_ret2
    exact HR.out
  · have hge : ((g2 : Int) == 4611686018427387904) = false := by simp; omega
    obtain ⟨C, HC⟩ : ∃ C, Hid (t.C = C) := ⟨_, rfl⟩
    rw [HC.out] at hC
    have hwg : IntKind.u64.wrap (g2 : Int) = (g2 : Int) := by rw [zaz]; omega
    have hBy := zkq (g2 + 1) a1 N c1 ys w4 (HB2.out _ HF4.out.2) (by omega) (by omega)
    rw [show ((g2 + 1 : Nat) : Int) = (g2 : Int) + 1 from by omega] at hBy
    have HBy : Hid (Calls _ _ _ _ _) := hBy
    clear hBy
    go_wp2_with fail
    refine Calls.mono HBy.out ?_
    rintro e w5 ⟨zo, zc, rfl, hW5⟩
    have HF5 : Hid (Fr [] w w5) := HF4.out.1.then hW5.fr
    have HO5 : Hid (w5.ownsRow 0 5 1 (.slice zo (20 + N) zc) (20 + N) (bts (ckB g2 ys))) := zby hW5.row.2 (Nat.zero_le _)
    have HZo : Hid (∃ ab, zo = some ⟨ab, 0, none⟩ /\ w.heap.size <= ab) := by
      rcases hW5.row.2.2 with ⟨hh, q⟩ | ⟨q, cp, cur, hh, hb, _⟩
      · omega
      · cases hh
        exact ⟨q, rfl, Nat.le_trans HF4.out.1.size hb⟩
    have HCa : Hid (Calls _ _ _ _ _) := ziu (HLD.out _ HF5.out) HC.out
    clear HBy hW5
    go_wp2_with fail
    refine Calls.mono HCa.out ?_
    rintro e w6 ⟨rfl, rfl⟩
    clear HCa
    by_cases hsp : C < 20 + N
    · have hsp' : (C : Int) < 20 + (N : Int) := by omega
      have HR : Hid (ZnP d t.C g2 i2 0 true ys w (.returned (.tuple #[.pointer none, .int .i64 13])) w5) := by
        have e9 : newE t.C g2 0 ys.length = 13 := by
          have := HNy.out
          unfold newE
          rw [if_neg (by simp), if_neg hg, if_pos (by rw [HC.out]; omega)]
        exact Or.inl ⟨by rw [e9]; decide, by rw [e9], HF5.out⟩
      go_wp2
      go_ret2
      exact HR.out
    · have hsp' : ¬ (C : Int) < 20 + (N : Int) := by omega
      have HR : Hid (ZnP d t.C g2 i2 0 true ys w (.returned (.tuple #[.pointer (some ⟨w5.heap.size, 0, none⟩), .int .i64 0])) (w5.alloc (.cells #[.pointer (some ⟨d, 0, none⟩), .int .i64 (1 - (i2 : Int)), .slice zo (20 + N) zc, .int .i64 0] 99))) := by
        obtain ⟨ab, rfl, hab⟩ := HZo.out
        have e9 : newE t.C g2 0 ys.length = 0 := by
          have := HNy.out
          unfold newE
          rw [if_neg (by simp), if_neg hg, if_neg (by rw [HC.out]; omega)]
        refine Or.inr ⟨e9, w5.heap.size, ab, zc, rfl, zve HO5.out (by rw [zgy, <- HNy.out]) (zcy (zkg _ _) HYl.out) (by omega) (zih _ _) ?_, HF5.out.size, hab, HF5.out.then (Fr.alloc [] _ _)⟩
        simp [besN]; omega
      go_wp2
      go_ret2
      exact HR.out
theorem zsq {w0 w : World} {d : Nat} {S : List Nat} {t : Sk} (h : LR w0 w d S t) {g i : Nat} {mN : Int} {bN : List Int} {pN : List Kv} (hN : Nw t.s0 t.s1 false g i mN bN pN)
    (m : Int) (bo ho : Option Addr) (Lb cb Lh ch : Nat) (bs : List Int) (hs : List Hd) (ps : List Kv) (ys : List Nat) (hI : IRs w bo bs) (hLb : Lb = bs.length) (hH : HRs w ho hs) (hLh : Lh = hs.length) (hp : hs.map Hd.kv = ps) (hT : ToldD m bs ps 0 ys) (hz : bs.length + szKs ps <= 1048576) :
    Calls Tryz.prog 16 #[.pointer (some ⟨d, 0, none⟩), .agg #[.int .i64 m, .slice bo Lb cb, .slice ho Lh ch]] w fun e w' => ZnP d t.C g i 0 false ys w e w' := by
  obtain ⟨w1, HW1⟩ : ∃ w1, Hid (w.alloc (.cells #[.int .i64 m, .slice bo Lb cb, .slice ho Lh ch] 57) = w1) := ⟨_, rfl⟩
  have hF1 : Fr [] w w1 := by rw [<- HW1.out]; exact Fr.alloc [] w _
  have hb1 : w1.heap[w.heap.size]? = some (.cells #[.int .i64 m, .slice bo Lb cb, .slice ho Lh ch] 57 (0, 0)) := by rw [<- HW1.out]; exact heap_alloc_new w _
  obtain ⟨A, hA⟩ : ∃ A, A = w.heap.size := ⟨_, rfl⟩
  rw [<- hA] at hb1
  obtain ⟨k0, k1, k2⟩ := zai hb1
  have HF1 : Hid (Fr [] w w1) := hF1
  have hok : OkS m bs ps /\ ys = encD m bs ps := by
    rcases hT with ⟨q1, _, q2⟩ | ⟨_, q, _⟩
    · exact ⟨q1, q2⟩
    · cases q
  have hyl := hT.len hz
  have hfew := (zgv (hs := hs) (by rw [hp]; omega)).1
  obtain ⟨N, hNy⟩ : ∃ N, N = ys.length := ⟨_, rfl⟩
  have HEn : Hid (Calls _ _ _ _ _) := ziq m bo ho Lb cb Lh ch N bs hs ys w1 (hI.keep hF1) hLb (hH.keep hF1) hLh (by rw [hp]; exact hok.1) (by rw [hp]; exact hok.2) hNy (by omega) (by omega) (by omega)
  have HNy : Hid (N = ys.length) := hNy
  have HYl : Hid (∀ x ∈ ys, x < 256) := by show ∀ x ∈ ys, x < 256; rw [hok.2]; exact zlb m bs ps
  have HLD : Hid (∀ W, Fr [] w W -> LR w0 W d S t) := fun W hf => h.quiet hf
  have HN : Hid (Nw t.s0 t.s1 false g i mN bN pN) := hN
  have hgi := hN.slot
  have hg62 : g <= 4611686018427387904 := hgi.2.1
  have hi1 : i <= 1 := by rcases hgi.1 with q | q <;> omega
  have hg0 : g = 0 /\ i = 0 := by
    rcases hN with ⟨q1, q2, _⟩ | ⟨q1, q2, _, _, _, _, _, _, q3⟩
    · rcases q2 with ⟨r1, _⟩ | ⟨_, r2, _⟩
      · cases r1
      · exact ⟨r2, q1⟩
    · rcases q2 with ⟨r1, _⟩ | ⟨_, r2, _⟩
      · cases r1
      · omega
  have HG0 : Hid (g = 0 /\ i = 0) := hg0
  have hC : t.C <= 16777216 := h.ok.cap
  rw [<- hNy] at hyl
  clear h hN hI hLb hH hLh hp hT hz hb1 hF1 hok hfew hNy hgi hg0
  go_enter Tryz.func16, Tryz.ntmps16
  go_upto_region 1 with fail
  rw [HW1.out, <- hA]
  clear HW1 hA
  go_wp2_with fail
  refine Calls.mono HEn.out ?_
  rintro e w2 ⟨a1, c1, rfl, hW2⟩
  have HF2 : Hid (Fr [] w w2) := HF1.out.then hW2.fr
  have HB2 : Hid (∀ W, Fr [] w2 W -> BArg W a1 N c1 ys) := fun W hf => (zbr (zby hW2.row.2 (Nat.zero_le _)) HYl.out (by omega)).keep hf
  have HNe : Hid (Calls _ _ _ _ _) := zfo (HLD.out _ HF2.out)
  clear HEn hW2 k0 k1 k2
  go_wp2_with fail
  refine Calls.mono HNe.out ?_
  rintro e w3 ⟨ok2, g2, i2, m2, bo2, Lb2, cb2, ho2, Lh2, ch2, bs2, hs2, rfl, hN2, hSv2, hF3⟩
  obtain ⟨e1, e2, e3, -, -, -⟩ := hN2.uniq HN.out
  subst e1
  subst e2
  subst e3
  obtain ⟨w4, HW4⟩ : ∃ w4, Hid (w3.alloc (.cells #[.int .i64 m2, .slice bo2 Lb2 cb2, .slice ho2 Lh2 ch2] 57) = w4) := ⟨_, rfl⟩
  have hF4 : Fr [] w3 w4 := by rw [<- HW4.out]; exact Fr.alloc [] w3 _
  have HF4 : Hid (Fr [] w w4 /\ Fr [] w2 w4) := ⟨HF2.out.then (hF3.then hF4), hF3.then hF4⟩
  clear HNe hN2 hSv2 hF3 hF4
  go_upto_region 7 with fail
  rw [HW4.out]
  clear HW4
  by_cases hg : g2 = 4611686018427387904
  · have hge : ((g2 : Int) == 4611686018427387904) = true := by simp; omega
    have HR : Hid (ZnP d t.C g2 i2 0 false ys w (.returned (.tuple #[.pointer none, .int .i64 3])) w4) := Or.inl ⟨by simp [newE, hg], by simp [newE, hg], HF4.out.1⟩
    clear hg
    go_wp2
    go_ret2
    exact HR.out
  · have hge : ((g2 : Int) == 4611686018427387904) = false := by simp; omega
    obtain ⟨C, HC⟩ : ∃ C, Hid (t.C = C) := ⟨_, rfl⟩
    rw [HC.out] at hC
    have hwg : IntKind.u64.wrap (g2 : Int) = (g2 : Int) := by rw [zaz]; omega
    have hBy := zkq (g2 + 1) a1 N c1 ys w4 (HB2.out _ HF4.out.2) (by omega) (by omega)
    rw [show ((g2 + 1 : Nat) : Int) = (g2 : Int) + 1 from by omega] at hBy
    have HBy : Hid (Calls _ _ _ _ _) := hBy
    clear hBy
    go_wp2_with fail
    refine Calls.mono HBy.out ?_
    rintro e w5 ⟨zo, zc, rfl, hW5⟩
    have HF5 : Hid (Fr [] w w5) := HF4.out.1.then hW5.fr
    have HO5 : Hid (w5.ownsRow 0 5 1 (.slice zo (20 + N) zc) (20 + N) (bts (ckB g2 ys))) := zby hW5.row.2 (Nat.zero_le _)
    have HZo : Hid (∃ ab, zo = some ⟨ab, 0, none⟩ /\ w.heap.size <= ab) := by
      rcases hW5.row.2.2 with ⟨hh, q⟩ | ⟨q, cp, cur, hh, hb, _⟩
      · omega
      · cases hh
        exact ⟨q, rfl, Nat.le_trans HF4.out.1.size hb⟩
    have HCa : Hid (Calls _ _ _ _ _) := ziu (HLD.out _ HF5.out) HC.out
    clear HBy hW5
    go_wp2_with fail
    refine Calls.mono HCa.out ?_
    rintro e w6 ⟨rfl, rfl⟩
    clear HCa
    by_cases hsp : C < 20 + N
    · have hsp' : (C : Int) < 20 + (N : Int) := by omega
      have HR : Hid (ZnP d t.C g2 i2 0 false ys w (.returned (.tuple #[.pointer none, .int .i64 13])) w5) := by
        have e9 : newE t.C g2 0 ys.length = 13 := by
          have := HNy.out
          unfold newE
          rw [if_neg (by simp), if_neg hg, if_pos (by rw [HC.out]; omega)]
        exact Or.inl ⟨by rw [e9]; decide, by rw [e9], HF5.out⟩
      go_wp2
      go_ret2
      exact HR.out
    · have hsp' : ¬ (C : Int) < 20 + (N : Int) := by omega
      have HR : Hid (ZnP d t.C g2 i2 0 false ys w (.returned (.tuple #[.pointer (some ⟨w5.heap.size, 0, none⟩), .int .i64 0])) (w5.alloc (.cells #[.pointer (some ⟨d, 0, none⟩), .int .i64 (i2), .slice zo (20 + N) zc, .int .i64 0] 99))) := by
        obtain ⟨ab, rfl, hab⟩ := HZo.out
        have e9 : newE t.C g2 0 ys.length = 0 := by
          have := HNy.out
          unfold newE
          rw [if_neg (by simp), if_neg hg, if_neg (by rw [HC.out]; omega)]
        refine Or.inr ⟨e9, w5.heap.size, ab, zc, rfl, zve HO5.out (by rw [zgy, <- HNy.out]) (zcy (zkg _ _) HYl.out) (by omega) (zih _ _) ?_, HF5.out.size, hab, HF5.out.then (Fr.alloc [] _ _)⟩
        have := HG0.out; simp [besN]; omega
      go_wp2
      go_ret2
      exact HR.out
theorem zoo {w0 w : World} {d : Nat} {S : List Nat} {t : Sk} (h : LR w0 w d S t) {ok : Bool} {g i : Nat} {mN : Int} {bN : List Int} {pN : List Kv} (hN : Nw t.s0 t.s1 ok g i mN bN pN)
    (m : Int) (bo ho : Option Addr) (Lb cb Lh ch c : Nat) (bs : List Int) (hs : List Hd) (ps : List Kv) (ys : List Nat) (hI : IRs w bo bs) (hLb : Lb = bs.length) (hH : HRs w ho hs) (hLh : Lh = hs.length) (hp : hs.map Hd.kv = ps) (hT : ToldD m bs ps c ys) (hz : bs.length + szKs ps <= 1048576) :
    Calls Tryz.prog 16 #[.pointer (some ⟨d, 0, none⟩), .agg #[.int .i64 m, .slice bo Lb cb, .slice ho Lh ch]] w fun e w' => ZnP d t.C g i c ok ys w e w' := by
  have hc : c = 0 \/ c = 1 := by
    rcases hT with ⟨_, q, _⟩ | ⟨_, q, _⟩
    · exact Or.inl q
    · exact Or.inr q
  rcases hc with rfl | rfl
  · cases ok with
    | true => exact zvf h hN m bo ho Lb cb Lh ch bs hs ps ys hI hLb hH hLh hp hT hz
    | false => exact zsq h hN m bo ho Lb cb Lh ch bs hs ps ys hI hLb hH hLh hp hT hz
  · exact zyv h hN m bo ho Lb cb Lh ch bs hs ps ys hI hLb hH hLh hp hT hz
structure Sv2 (w0 w : World) (gd gr sb fb ab tb ab2 slot : Nat) (zs : List Nat) (k : Nat) (SD SR : List Nat) : Prop where
  s : ∃ fo fc ac, SaM w sb gd fb ab fo fc ac slot zs k
  t : ∃ ac, ZaM w tb gr ab2 ac slot zs k
  apD : ∀ q ∈ [sb, fb, ab, tb, ab2], q ∉ SD
  apR : ∀ q ∈ [sb, fb, ab, tb, ab2], q ∉ SR
  new : ∀ q ∈ [sb, fb, ab, tb, ab2], w0.heap.size <= q
def SvP (w0 w : World) (gd gr : Nat) (SD SR : List Nat) (vs vt : Value) (SS : List Nat) : Prop :=
  (vs = .pointer none /\ vt = .pointer none /\ SS = []) \/ ∃ sb fb ab tb ab2 slot zs k, vs = .pointer (some ⟨sb, 0, none⟩) /\ vt = .pointer (some ⟨tb, 0, none⟩) /\ SS = [sb, fb, ab, tb, ab2] /\ Sv2 w0 w gd gr sb fb ab tb ab2 slot zs k SD SR
def Ow (pb : Nat) (SD SR SS : List Nat) : List Nat := pb :: (SD ++ (SR ++ SS))
theorem mem_Ow {pb q : Nat} {SD SR SS : List Nat} : q ∈ Ow pb SD SR SS ↔ q = pb \/ q ∈ SD \/ q ∈ SR \/ q ∈ SS := by simp [Ow]
structure Ts (w0 w : World) (pb gd gr : Nat) (SD SR : List Nat) (t : Sk) (vs vt : Value) (SS : List Nat) : Prop where
  pr : PR w0 w gd gr SD SR t t
  box : w.heap[pb]? = some (.cells #[.pointer (some ⟨gd, 0, none⟩), vs, .pointer (some ⟨gr, 0, none⟩), vt] 35 (0, 0))
  pbn : w0.heap.size <= pb /\ pb ∉ SD /\ pb ∉ SR
  sv : SvP w0 w gd gr SD SR vs vt SS
section
variable {w0 w w' : World} {pb gd gr : Nat} {SD SR SD' SR' SS : List Nat} {t t' : Sk} {vs vt : Value}
theorem Sv2.lt {sb fb ab tb ab2 slot k : Nat} {zs : List Nat} (h : Sv2 w0 w gd gr sb fb ab tb ab2 slot zs k SD SR) : ∀ q ∈ [sb, fb, ab, tb, ab2], q < w.heap.size := by
  obtain ⟨fo, fc, ac, hs⟩ := h.s
  obtain ⟨ac2, ht⟩ := h.t
  have b1 := hs.blocks
  have b2 := ht.blocks
  intro q hq
  simp at hq
  rcases hq with rfl | rfl | rfl | rfl | rfl <;> omega
theorem Sv2.ne {sb fb ab tb ab2 slot k : Nat} {zs : List Nat} (h : Sv2 w0 w gd gr sb fb ab tb ab2 slot zs k SD SR) : sb ≠ tb /\ sb ≠ ab2 /\ tb ≠ fb /\ tb ≠ ab := by
  obtain ⟨fo, fc, ac, hs⟩ := h.s
  obtain ⟨ac2, ht⟩ := h.t
  obtain ⟨cs, hf, _⟩ := hs.row
  obtain ⟨ca, ha⟩ := zaf hs.byt ab rfl
  obtain ⟨cb, hb⟩ := zaf ht.byt ab2 rfl
  refine ⟨?_, ?_, ?_, ?_⟩
  · rintro rfl; have := hs.box; rw [ht.box] at this; simp at this
  · rintro rfl; have := hs.box; rw [hb] at this; simp at this
  · rintro rfl; have := ht.box; rw [hf] at this; simp at this
  · rintro rfl; have := ht.box; rw [ha] at this; simp at this
theorem Sv2.go {S : List Nat} {sb fb ab tb ab2 slot k : Nat} {zs : List Nat} (h : Sv2 w0 w gd gr sb fb ab tb ab2 slot zs k SD SR) (hf : Fr S w w') (hS : ∀ q ∈ [sb, fb, ab, tb, ab2], q ∉ S) (hD : ∀ q ∈ SD', q ∈ SD \/ w.heap.size <= q) (hR : ∀ q ∈ SR', q ∈ SR \/ w.heap.size <= q) : Sv2 w0 w' gd gr sb fb ab tb ab2 slot zs k SD' SR' := by
  obtain ⟨fo, fc, ac, hs⟩ := h.s
  obtain ⟨ac2, ht⟩ := h.t
  have hlt := h.lt
  refine ⟨⟨fo, fc, ac, hs.keep hf (hS _ (by simp)) (hS _ (by simp)) (hS _ (by simp))⟩, ⟨ac2, ht.keep hf (hS _ (by simp)) (hS _ (by simp))⟩, fun q hq hm => ?_, fun q hq hm => ?_, h.new⟩
  · rcases hD q hm with p | p
    · exact h.apD q hq p
    · have := hlt q hq; omega
  · rcases hR q hm with p | p
    · exact h.apR q hq p
    · have := hlt q hq; omega
theorem SvP.go {S : List Nat} (h : SvP w0 w gd gr SD SR vs vt SS) (hf : Fr S w w') (hS : ∀ q ∈ S, q ∈ SD \/ q ∈ SR \/ (w.heap[q]?).map (fun o => match o with | .cells _ ty _ => decide (ty = 35) | _ => false) = some true) (hD : ∀ q ∈ SD', q ∈ SD \/ w.heap.size <= q) (hR : ∀ q ∈ SR', q ∈ SR \/ w.heap.size <= q) : SvP w0 w' gd gr SD' SR' vs vt SS := by
  rcases h with h | ⟨sb, fb, ab, tb, ab2, slot, zs, k, e1, e2, e3, h⟩
  · exact Or.inl h
  · refine Or.inr ⟨sb, fb, ab, tb, ab2, slot, zs, k, e1, e2, e3, h.go hf (fun q hq hm => ?_) hD hR⟩
    rcases hS q hm with p | p | p
    · exact h.apD q hq p
    · exact h.apR q hq p
    · obtain ⟨fo, fc, ac, hs⟩ := h.s
      obtain ⟨ac2, ht⟩ := h.t
      obtain ⟨cs, hf, _⟩ := hs.row
      obtain ⟨ca, ha⟩ := zaf hs.byt ab rfl
      obtain ⟨cb, hb⟩ := zaf ht.byt ab2 rfl
      simp at hq
      rcases hq with rfl | rfl | rfl | rfl | rfl
      · rw [hs.box] at p; simp at p
      · rw [hf] at p; simp at p
      · rw [ha] at p; simp at p
      · rw [ht.box] at p; simp at p
      · rw [hb] at p; simp at p
theorem Ts.lt (h : Ts w0 w pb gd gr SD SR t vs vt SS) : ∀ q ∈ Ow pb SD SR SS, q < w.heap.size := by
  intro q hq
  rcases mem_Ow.1 hq with rfl | hq | hq | hq
  · exact lt_of_block h.box
  · exact h.pr.d.lt q hq
  · exact h.pr.r.lt q hq
  · rcases h.sv with ⟨_, _, e⟩ | ⟨sb, fb, ab, tb, ab2, slot, zs, k, _, _, e, hs⟩
    · subst e; simp at hq
    · subst e
      exact hs.lt q hq
theorem Ts.new (h : Ts w0 w pb gd gr SD SR t vs vt SS) : ∀ q ∈ Ow pb SD SR SS, w0.heap.size <= q := by
  intro q hq
  rcases mem_Ow.1 hq with rfl | hq | hq | hq
  · exact h.pbn.1
  · exact h.pr.d.new q hq
  · exact h.pr.r.new q hq
  · rcases h.sv with ⟨_, _, e⟩ | ⟨sb, fb, ab, tb, ab2, slot, zs, k, _, _, e, hs⟩
    · subst e; simp at hq
    · subst e
      exact hs.new q hq
theorem Ts.quiet (h : Ts w0 w pb gd gr SD SR t vs vt SS) (hf : Fr [] w w') : Ts w0 w' pb gd gr SD SR t vs vt SS :=
  ⟨h.pr.quiet hf, hf.keep h.box (by simp), h.pbn, h.sv.go hf (by simp) (fun q hq => Or.inl hq) (fun q hq => Or.inl hq)⟩
theorem Ts.keepS {S : List Nat} (h : Ts w0 w pb gd gr SD SR t vs vt SS) (hf : Fr S w w') (hS : ∀ q ∈ S, q ∉ Ow pb SD SR SS) (hN : ∀ q ∈ S, w0.heap.size <= q) : Ts w0 w' pb gd gr SD SR t vs vt SS := by
  have hS' := fun q hq => fun hm => hS q hq (mem_Ow.2 hm)
  refine ⟨h.pr.keepS hf (fun q hq => ⟨fun hm => hS' q hq (Or.inr (Or.inl hm)), fun hm => hS' q hq (Or.inr (Or.inr (Or.inl hm)))⟩) hN, hf.keep h.box (fun hm => hS' pb hm (Or.inl rfl)), h.pbn, ?_⟩
  rcases h.sv with e | ⟨sb, fb, ab, tb, ab2, slot, zs, k, e1, e2, e3, hs⟩
  · exact Or.inl e
  · refine Or.inr ⟨sb, fb, ab, tb, ab2, slot, zs, k, e1, e2, e3, hs.go hf (fun q hq hm => ?_) (fun q hq => Or.inl hq) (fun q hq => Or.inl hq)⟩
    exact hS' q hm (Or.inr (Or.inr (Or.inr (by rw [e3]; exact hq))))
theorem Ts.stepD (h : Ts w0 w pb gd gr SD SR t vs vt SS) {t2 : Sk} (hD : LD w0 w' gd SD' t2) (hT : To SD SD' w w') : PR w0 w' gd gr SD' SR t2 t /\ w'.heap[pb]? = some (.cells #[.pointer (some ⟨gd, 0, none⟩), vs, .pointer (some ⟨gr, 0, none⟩), vt] 35 (0, 0)) /\ (w0.heap.size <= pb /\ pb ∉ SD' /\ pb ∉ SR) /\ SvP w0 w' gd gr SD' SR vs vt SS := by
  refine ⟨h.pr.stepD hD hT, hT.fr.keep h.box h.pbn.2.1, ⟨h.pbn.1, fun hm => ?_, h.pbn.2.2⟩, h.sv.go hT.fr (fun q hq => Or.inl hq) hT.grew (fun q hq => Or.inl hq)⟩
  rcases hT.grew pb hm with p | p
  · exact h.pbn.2.1 p
  · have := lt_of_block h.box; omega
theorem zyw {fD fR : FuncId} {aD aR : Array Value} {E : Int} {ob : Nat} {oc : Array Value} (h : Ts w0 w pb gd gr SD SR t vs vt SS) (hob : w.heap[ob]? = some (.cells oc 60 (0, 0))) (hoD : ob ∉ SD) (hoR : ob ∉ SR)
    (hD : Calls Tryz.prog fD aD w fun e w' => e = .returned (.int .i64 E) /\ ∃ S', LD w0 w' gd S' t' /\ To SD S' w w')
    (hR : ∀ W, LR w0 W gr SR t -> Fr SD w W -> Calls Tryz.prog fR aR W fun e w' => e = .returned (.int .i64 E) /\ ∃ S', LR w0 w' gr S' t' /\ To SR S' W w') :
    Calls Tryz.prog fD aD w fun e w2 => e = .returned (.int .i64 E) /\ (∀ (j : Nat) v, (#[.pointer (some ⟨gd, 0, none⟩), vs, .pointer (some ⟨gr, 0, none⟩), vt] : Array Value)[j]? = some v -> w2.cell? ⟨pb, j, none⟩ = some v) /\ (∀ (j : Nat) v, oc[j]? = some v -> w2.cell? ⟨ob, j, none⟩ = some v) /\
      Hid (Calls Tryz.prog fR aR w2 fun e w3 => e = .returned (.int .i64 E) /\ (∀ (j : Nat) v, (#[.pointer (some ⟨gd, 0, none⟩), vs, .pointer (some ⟨gr, 0, none⟩), vt] : Array Value)[j]? = some v -> w3.cell? ⟨pb, j, none⟩ = some v) /\ (∀ (j : Nat) v, oc[j]? = some v -> w3.cell? ⟨ob, j, none⟩ = some v) /\ Hid (∃ SD' SR', Ts w0 w3 pb gd gr SD' SR' t' vs vt SS /\ To (Ow pb SD SR SS) (Ow pb SD' SR' SS) w w3)) := by
  refine hD.mono ?_
  rintro e w2 ⟨rfl, SD', hL, hT⟩
  obtain ⟨p1, p2, p3, p4⟩ := h.stepD hL hT
  have hob2 := hT.fr.keep hob hoD
  refine ⟨rfl, fun j v hv => by rw [cell_of_row _ _ _ _ _ _ p2]; exact hv, fun j v hv => by rw [cell_of_row _ _ _ _ _ _ hob2]; exact hv, ?_⟩
  refine Calls.mono (hR w2 p1.r hT.fr) ?_
  rintro e w3 ⟨rfl, SR', hL3, hT3⟩
  have p5 := p1.stepR hL3 hT3
  have hoR2 : ob ∉ SR := hoR
  refine ⟨rfl, fun j v hv => by rw [cell_of_row _ _ _ _ _ _ (hT3.fr.keep p2 p3.2.2)]; exact hv, fun j v hv => by rw [cell_of_row _ _ _ _ _ _ (hT3.fr.keep hob2 hoR)]; exact hv, SD', SR', ⟨p5, hT3.fr.keep p2 p3.2.2, ⟨p3.1, p3.2.1, fun hm => ?_⟩, p4.go hT3.fr (fun q hq => Or.inr (Or.inl hq)) (fun q hq => Or.inl hq) hT3.grew⟩, ?_⟩
  · rcases hT3.grew pb hm with p | p
    · exact p3.2.2 p
    · have := lt_of_block p2; omega
  · refine ⟨(hT.fr.mono (fun x hx _ => mem_Ow.2 (Or.inr (Or.inl hx)))).then (hT3.fr.mono (fun x hx _ => mem_Ow.2 (Or.inr (Or.inr (Or.inl hx))))), fun q hq => ?_⟩
    have hsz := hT.fr.size
    rcases mem_Ow.1 hq with p | p | p | p
    · exact Or.inl (mem_Ow.2 (Or.inl p))
    · rcases hT.grew q p with r | r
      · exact Or.inl (mem_Ow.2 (Or.inr (Or.inl r)))
      · exact Or.inr r
    · rcases hT3.grew q p with r | r
      · exact Or.inl (mem_Ow.2 (Or.inr (Or.inr (Or.inl r))))
      · exact Or.inr (by omega)
    · exact Or.inl (mem_Ow.2 (Or.inr (Or.inr (Or.inr p))))
end
end Go.Proofs.YtembflnhhfliaaaGreatDoor
