/- Contracts and plain lemmas of this claim. -/
import Derived.Test.YtembflnhhfliaaaGreatDoorGp49
set_option linter.unusedSimpArgs false
set_option linter.unusedVariables false
set_option maxHeartbeats 16000000
set_option maxRecDepth 100000
namespace Go.Proofs.YtembflnhhfliaaaGreatDoor
open BigFrame Go.ChangeShapes Go.WideShapes Go.ChangeAt Go.RowKit Go.Lib Go.Maps
def Pn (pb : Nat) (w : World) : Prop := w.heap[pb]? = some (.cells #[.pointer none, .pointer none, .pointer none, .pointer none] 35 (0, 0))
def DnP (pb : Nat) (w : World) (e : Ending) (w' : World) : Prop := e = .returned (.bool true) /\ Pn pb w' /\ Fr [pb] w w'
theorem zfg {fD fR : FuncId} {aD aR : Array Value} {w : World} {pb ob : Nat} {oc : Array Value} (hpb : Pn pb w) (hob : w.heap[ob]? = some (.cells oc 60 (0, 0)))
    (hD : Calls Tryz.prog fD aD w fun e w' => e = .returned (.int .i64 2) /\ w = w') (hR : Calls Tryz.prog fR aR w fun e w' => e = .returned (.int .i64 2) /\ w = w') :
    Calls Tryz.prog fD aD w fun e w2 => e = .returned (.int .i64 2) /\ (∀ (j : Nat) v, (#[.pointer none, .pointer none, .pointer none, .pointer none] : Array Value)[j]? = some v -> w2.cell? ⟨pb, j, none⟩ = some v) /\ (∀ (j : Nat) v, oc[j]? = some v -> w2.cell? ⟨ob, j, none⟩ = some v) /\
      Hid (Calls Tryz.prog fR aR w2 fun e w3 => e = .returned (.int .i64 2) /\ (∀ (j : Nat) v, (#[.pointer none, .pointer none, .pointer none, .pointer none] : Array Value)[j]? = some v -> w3.cell? ⟨pb, j, none⟩ = some v) /\ (∀ (j : Nat) v, oc[j]? = some v -> w3.cell? ⟨ob, j, none⟩ = some v) /\ Hid (w = w3)) := by
  have c1 : ∀ (j : Nat) v, (#[.pointer none, .pointer none, .pointer none, .pointer none] : Array Value)[j]? = some v -> w.cell? ⟨pb, j, none⟩ = some v := fun j v hv => by rw [cell_of_row _ _ _ _ _ _ hpb]; exact hv
  have c2 : ∀ (j : Nat) v, oc[j]? = some v -> w.cell? ⟨ob, j, none⟩ = some v := fun j v hv => by rw [cell_of_row _ _ _ _ _ _ hob]; exact hv
  refine hD.mono ?_
  rintro e w2 ⟨rfl, rfl⟩
  refine ⟨rfl, c1, c2, Calls.mono hR ?_⟩
  rintro e w3 ⟨rfl, rfl⟩
  exact ⟨rfl, c1, c2, rfl⟩
theorem zyw {w : World} {pb : Nat} (h : Pn pb w) (m slot at_ n : Int) (b1 h1 bo : Option Addr) (L1 c1 L2 c2 M cb : Nat) :
    Calls Tryz.prog 8 #[.pointer (some ⟨pb, 0, none⟩), .agg #[.int .u8 3, .int .i64 m, .slice b1 L1 c1, .slice h1 L2 c2, .int .i64 slot, .int .i64 at_, .slice bo M cb, .int .i64 n]] w fun e w' => DnP pb w e w' := by
  obtain ⟨w1, HW1⟩ : ∃ w1, Hid (w.alloc (.cells #[.int .u8 3, .int .i64 m, .slice b1 L1 c1, .slice h1 L2 c2, .int .i64 slot, .int .i64 at_, .slice bo M cb, .int .i64 n] 60) = w1) := ⟨_, rfl⟩
  have hF1 : Fr [] w w1 := by rw [<- HW1.out]; exact Fr.alloc [] w _
  obtain ⟨ob, hob⟩ : ∃ ob, ob = w.heap.size := ⟨_, rfl⟩
  have hb1 : w1.heap[ob]? = some (.cells #[.int .u8 3, .int .i64 m, .slice b1 L1 c1, .slice h1 L2 c2, .int .i64 slot, .int .i64 at_, .slice bo M cb, .int .i64 n] 60 (0, 0)) := by rw [<- HW1.out, hob]; exact heap_alloc_new w _
  have hFd : Fr [] w w1.drew := hF1.then (Fr.drew [] w1)
  have hbd : w1.drew.heap[ob]? = some (.cells #[.int .u8 3, .int .i64 m, .slice b1 L1 c1, .slice h1 L2 c2, .int .i64 slot, .int .i64 at_, .slice bo M cb, .int .i64 n] 60 (0, 0)) := (Fr.drew [] w1).keep hb1 (by simp)
  have hPd : Pn pb w1.drew := hFd.keep h (by simp)
  have HC : Hid (Calls _ _ _ _ _) := zfg (fD := 19) (fR := 20) (aD := #[.pointer none, .int .i64 slot, .int .i64 at_, .slice bo M cb]) (aR := #[.pointer none, .int .i64 slot, .int .i64 at_, .slice bo M cb]) hPd hbd (ztj slot at_ bo M cb w1.drew) (zvy slot at_ bo M cb)
  have HP : Hid (Pn pb w1.drew /\ Fr [pb] w w1.drew) := ⟨hPd, hFd.mono (by simp)⟩
  have k0 : w1.cell? ⟨ob, 0, none⟩ = some (.int .u8 3) := by rw [cell_of_row _ _ _ _ _ _ hb1]; rfl
  have p0 : w1.drew.cell? ⟨pb, 0, none⟩ = some (.pointer none) := by rw [cell_of_row _ _ _ _ _ _ hPd]; rfl
  have p2 : w1.drew.cell? ⟨pb, 2, none⟩ = some (.pointer none) := by rw [cell_of_row _ _ _ _ _ _ hPd]; rfl
  have k4 : w1.drew.cell? ⟨ob, 4, none⟩ = some (.int .i64 slot) := by rw [cell_of_row _ _ _ _ _ _ hbd]; rfl
  have k5 : w1.drew.cell? ⟨ob, 5, none⟩ = some (.int .i64 at_) := by rw [cell_of_row _ _ _ _ _ _ hbd]; rfl
  have k6 : w1.drew.cell? ⟨ob, 6, none⟩ = some (.slice bo M cb) := by rw [cell_of_row _ _ _ _ _ _ hbd]; rfl
  clear h hb1 hbd hPd hF1 hFd
  go_enter Tryz.func8, Tryz.ntmps8
  go_upto_region 1 with fail
  rw [HW1.out, <- hob]
  clear HW1 hob
  go_upto_region 13 with fail
  clear k0
  go_loud (go_region_held3 (fun W => W.cell? ⟨pb, 0, none⟩ = some (.pointer none) /\ W.cell? ⟨pb, 2, none⟩ = some (.pointer none) /\ W.cell? ⟨ob, 4, none⟩ = some (.int .i64 slot) /\ W.cell? ⟨ob, 5, none⟩ = some (.int .i64 at_) /\ W.cell? ⟨ob, 6, none⟩ = some (.slice bo M cb)) (go_keep)
    (first
    | (go_at_call 19; with_reducible refine HC.out.mono ?_; rintro e2 w2 ⟨rfl, q1, q2, HC2⟩; have l0 := q1 0 _ rfl; have l2 := q1 2 _ rfl; have l4 := q2 4 _ rfl; have l5 := q2 5 _ rfl; have l6 := q2 6 _ rfl; clear q1 q2)
    | (go_at_call 20; with_reducible refine HC2.out.mono ?_; rintro e3 w3 ⟨rfl, q1, q2, HR3⟩; have m0 := q1 0 _ rfl; have m2 := q1 2 _ rfl; have m4 := q2 4 _ rfl; have m5 := q2 5 _ rfl; have m6 := q2 6 _ rfl; clear q1 q2)))
  have HR : Hid (DnP pb w (.returned (.bool true)) w3) := by
    obtain rfl := HR3.out
    exact ⟨rfl, HP.out.1, HP.out.2⟩
  clear HR3 HC HC2
  go_wp2
  go_ret
  exact HR.out
theorem zyx {w : World} {pb : Nat} (h : Pn pb w) (m slot at_ n : Int) (b1 h1 bo : Option Addr) (L1 c1 L2 c2 M cb : Nat) :
    Calls Tryz.prog 8 #[.pointer (some ⟨pb, 0, none⟩), .agg #[.int .u8 4, .int .i64 m, .slice b1 L1 c1, .slice h1 L2 c2, .int .i64 slot, .int .i64 at_, .slice bo M cb, .int .i64 n]] w fun e w' => DnP pb w e w' := by
  obtain ⟨w1, HW1⟩ : ∃ w1, Hid (w.alloc (.cells #[.int .u8 4, .int .i64 m, .slice b1 L1 c1, .slice h1 L2 c2, .int .i64 slot, .int .i64 at_, .slice bo M cb, .int .i64 n] 60) = w1) := ⟨_, rfl⟩
  have hF1 : Fr [] w w1 := by rw [<- HW1.out]; exact Fr.alloc [] w _
  obtain ⟨ob, hob⟩ : ∃ ob, ob = w.heap.size := ⟨_, rfl⟩
  have hb1 : w1.heap[ob]? = some (.cells #[.int .u8 4, .int .i64 m, .slice b1 L1 c1, .slice h1 L2 c2, .int .i64 slot, .int .i64 at_, .slice bo M cb, .int .i64 n] 60 (0, 0)) := by rw [<- HW1.out, hob]; exact heap_alloc_new w _
  have hFd : Fr [] w w1.drew := hF1.then (Fr.drew [] w1)
  have hbd : w1.drew.heap[ob]? = some (.cells #[.int .u8 4, .int .i64 m, .slice b1 L1 c1, .slice h1 L2 c2, .int .i64 slot, .int .i64 at_, .slice bo M cb, .int .i64 n] 60 (0, 0)) := (Fr.drew [] w1).keep hb1 (by simp)
  have hPd : Pn pb w1.drew := hFd.keep h (by simp)
  have HC : Hid (Calls _ _ _ _ _) := zfg (fD := 21) (fR := 22) (aD := #[.pointer none, .int .i64 slot]) (aR := #[.pointer none, .int .i64 slot]) hPd hbd (ztk slot w1.drew) (zvz slot)
  have HP : Hid (Pn pb w1.drew /\ Fr [pb] w w1.drew) := ⟨hPd, hFd.mono (by simp)⟩
  have k0 : w1.cell? ⟨ob, 0, none⟩ = some (.int .u8 4) := by rw [cell_of_row _ _ _ _ _ _ hb1]; rfl
  have p0 : w1.drew.cell? ⟨pb, 0, none⟩ = some (.pointer none) := by rw [cell_of_row _ _ _ _ _ _ hPd]; rfl
  have p2 : w1.drew.cell? ⟨pb, 2, none⟩ = some (.pointer none) := by rw [cell_of_row _ _ _ _ _ _ hPd]; rfl
  have k4 : w1.drew.cell? ⟨ob, 4, none⟩ = some (.int .i64 slot) := by rw [cell_of_row _ _ _ _ _ _ hbd]; rfl
  clear h hb1 hbd hPd hF1 hFd
  go_enter Tryz.func8, Tryz.ntmps8
  go_upto_region 1 with fail
  rw [HW1.out, <- hob]
  clear HW1 hob
  go_upto_region 15 with fail
  clear k0
  go_loud (go_region_held3 (fun W => W.cell? ⟨pb, 0, none⟩ = some (.pointer none) /\ W.cell? ⟨pb, 2, none⟩ = some (.pointer none) /\ W.cell? ⟨ob, 4, none⟩ = some (.int .i64 slot)) (go_keep)
    (first
    | (go_at_call 21; with_reducible refine HC.out.mono ?_; rintro e2 w2 ⟨rfl, q1, q2, HC2⟩; have l0 := q1 0 _ rfl; have l2 := q1 2 _ rfl; have l4 := q2 4 _ rfl; clear q1 q2)
    | (go_at_call 22; with_reducible refine HC2.out.mono ?_; rintro e3 w3 ⟨rfl, q1, q2, HR3⟩; have m0 := q1 0 _ rfl; have m2 := q1 2 _ rfl; have m4 := q2 4 _ rfl; clear q1 q2)))
  have HR : Hid (DnP pb w (.returned (.bool true)) w3) := by
    obtain rfl := HR3.out
    exact ⟨rfl, HP.out.1, HP.out.2⟩
  clear HR3 HC HC2
  go_wp2
  go_ret
  exact HR.out
theorem zacf {w : World} {pb : Nat} (h : Pn pb w) (m slot at_ n : Int) (b1 h1 bo : Option Addr) (L1 c1 L2 c2 M cb : Nat) :
    Calls Tryz.prog 8 #[.pointer (some ⟨pb, 0, none⟩), .agg #[.int .u8 5, .int .i64 m, .slice b1 L1 c1, .slice h1 L2 c2, .int .i64 slot, .int .i64 at_, .slice bo M cb, .int .i64 n]] w fun e w' => DnP pb w e w' := by
  obtain ⟨w1, HW1⟩ : ∃ w1, Hid (w.alloc (.cells #[.int .u8 5, .int .i64 m, .slice b1 L1 c1, .slice h1 L2 c2, .int .i64 slot, .int .i64 at_, .slice bo M cb, .int .i64 n] 60) = w1) := ⟨_, rfl⟩
  have hF1 : Fr [] w w1 := by rw [<- HW1.out]; exact Fr.alloc [] w _
  obtain ⟨ob, hob⟩ : ∃ ob, ob = w.heap.size := ⟨_, rfl⟩
  have hb1 : w1.heap[ob]? = some (.cells #[.int .u8 5, .int .i64 m, .slice b1 L1 c1, .slice h1 L2 c2, .int .i64 slot, .int .i64 at_, .slice bo M cb, .int .i64 n] 60 (0, 0)) := by rw [<- HW1.out, hob]; exact heap_alloc_new w _
  have hFd : Fr [] w w1.drew := hF1.then (Fr.drew [] w1)
  have hbd : w1.drew.heap[ob]? = some (.cells #[.int .u8 5, .int .i64 m, .slice b1 L1 c1, .slice h1 L2 c2, .int .i64 slot, .int .i64 at_, .slice bo M cb, .int .i64 n] 60 (0, 0)) := (Fr.drew [] w1).keep hb1 (by simp)
  have hPd : Pn pb w1.drew := hFd.keep h (by simp)
  have HC : Hid (Calls _ _ _ _ _) := zfg (fD := 23) (fR := 24) (aD := #[.pointer none, .int .i64 n]) (aR := #[.pointer none, .int .i64 n]) hPd hbd (zyu n w1.drew) (zaau n)
  have HP : Hid (Pn pb w1.drew /\ Fr [pb] w w1.drew) := ⟨hPd, hFd.mono (by simp)⟩
  have k0 : w1.cell? ⟨ob, 0, none⟩ = some (.int .u8 5) := by rw [cell_of_row _ _ _ _ _ _ hb1]; rfl
  have p0 : w1.drew.cell? ⟨pb, 0, none⟩ = some (.pointer none) := by rw [cell_of_row _ _ _ _ _ _ hPd]; rfl
  have p2 : w1.drew.cell? ⟨pb, 2, none⟩ = some (.pointer none) := by rw [cell_of_row _ _ _ _ _ _ hPd]; rfl
  have k7 : w1.drew.cell? ⟨ob, 7, none⟩ = some (.int .i64 n) := by rw [cell_of_row _ _ _ _ _ _ hbd]; rfl
  clear h hb1 hbd hPd hF1 hFd
  go_enter Tryz.func8, Tryz.ntmps8
  go_upto_region 1 with fail
  rw [HW1.out, <- hob]
  clear HW1 hob
  go_upto_region 17 with fail
  clear k0
  go_loud (go_region_held3 (fun W => W.cell? ⟨pb, 0, none⟩ = some (.pointer none) /\ W.cell? ⟨pb, 2, none⟩ = some (.pointer none) /\ W.cell? ⟨ob, 7, none⟩ = some (.int .i64 n)) (go_keep)
    (first
    | (go_at_call 23; with_reducible refine HC.out.mono ?_; rintro e2 w2 ⟨rfl, q1, q2, HC2⟩; have l0 := q1 0 _ rfl; have l2 := q1 2 _ rfl; have l7 := q2 7 _ rfl; clear q1 q2)
    | (go_at_call 24; with_reducible refine HC2.out.mono ?_; rintro e3 w3 ⟨rfl, q1, q2, HR3⟩; have m0 := q1 0 _ rfl; have m2 := q1 2 _ rfl; have m7 := q2 7 _ rfl; clear q1 q2)))
  have HR : Hid (DnP pb w (.returned (.bool true)) w3) := by
    obtain rfl := HR3.out
    exact ⟨rfl, HP.out.1, HP.out.2⟩
  clear HR3 HC HC2
  go_wp2
  go_ret
  exact HR.out
theorem zaba {w : World} {pb : Nat} (h : Pn pb w) (m slot at_ n : Int) (b1 h1 bo : Option Addr) (L1 c1 L2 c2 M cb : Nat) :
    Calls Tryz.prog 8 #[.pointer (some ⟨pb, 0, none⟩), .agg #[.int .u8 6, .int .i64 m, .slice b1 L1 c1, .slice h1 L2 c2, .int .i64 slot, .int .i64 at_, .slice bo M cb, .int .i64 n]] w fun e w' => DnP pb w e w' := by
  obtain ⟨w1, HW1⟩ : ∃ w1, Hid (w.alloc (.cells #[.int .u8 6, .int .i64 m, .slice b1 L1 c1, .slice h1 L2 c2, .int .i64 slot, .int .i64 at_, .slice bo M cb, .int .i64 n] 60) = w1) := ⟨_, rfl⟩
  have hF1 : Fr [] w w1 := by rw [<- HW1.out]; exact Fr.alloc [] w _
  obtain ⟨ob, hob⟩ : ∃ ob, ob = w.heap.size := ⟨_, rfl⟩
  have hb1 : w1.heap[ob]? = some (.cells #[.int .u8 6, .int .i64 m, .slice b1 L1 c1, .slice h1 L2 c2, .int .i64 slot, .int .i64 at_, .slice bo M cb, .int .i64 n] 60 (0, 0)) := by rw [<- HW1.out, hob]; exact heap_alloc_new w _
  have hFd : Fr [] w w1.drew := hF1.then (Fr.drew [] w1)
  have hbd : w1.drew.heap[ob]? = some (.cells #[.int .u8 6, .int .i64 m, .slice b1 L1 c1, .slice h1 L2 c2, .int .i64 slot, .int .i64 at_, .slice bo M cb, .int .i64 n] 60 (0, 0)) := (Fr.drew [] w1).keep hb1 (by simp)
  have hPd : Pn pb w1.drew := hFd.keep h (by simp)
  have HC : Hid (Calls _ _ _ _ _) := zfg (fD := 25) (fR := 26) (aD := #[.pointer none]) (aR := #[.pointer none]) hPd hbd (zwl w1.drew) (zyk)
  have HP : Hid (Pn pb w1.drew /\ Fr [pb] w w1.drew) := ⟨hPd, hFd.mono (by simp)⟩
  have k0 : w1.cell? ⟨ob, 0, none⟩ = some (.int .u8 6) := by rw [cell_of_row _ _ _ _ _ _ hb1]; rfl
  have p0 : w1.drew.cell? ⟨pb, 0, none⟩ = some (.pointer none) := by rw [cell_of_row _ _ _ _ _ _ hPd]; rfl
  have p2 : w1.drew.cell? ⟨pb, 2, none⟩ = some (.pointer none) := by rw [cell_of_row _ _ _ _ _ _ hPd]; rfl
  clear h hb1 hbd hPd hF1 hFd
  go_enter Tryz.func8, Tryz.ntmps8
  go_upto_region 1 with fail
  rw [HW1.out, <- hob]
  clear HW1 hob
  go_upto_region 19 with fail
  clear k0
  go_loud (go_region_held3 (fun W => W.cell? ⟨pb, 0, none⟩ = some (.pointer none) /\ W.cell? ⟨pb, 2, none⟩ = some (.pointer none)) (go_keep)
    (first
    | (go_at_call 25; with_reducible refine HC.out.mono ?_; rintro e2 w2 ⟨rfl, q1, q2, HC2⟩; have l0 := q1 0 _ rfl; have l2 := q1 2 _ rfl; clear q1 q2)
    | (go_at_call 26; with_reducible refine HC2.out.mono ?_; rintro e3 w3 ⟨rfl, q1, q2, HR3⟩; have m0 := q1 0 _ rfl; have m2 := q1 2 _ rfl; clear q1 q2)))
  have HR : Hid (DnP pb w (.returned (.bool true)) w3) := by
    obtain rfl := HR3.out
    exact ⟨rfl, HP.out.1, HP.out.2⟩
  clear HR3 HC HC2
  go_wp2
  go_ret
  exact HR.out
theorem zabb {w : World} {pb : Nat} (h : Pn pb w) (K m slot at_ n : Int) (b1 h1 bo : Option Addr) (L1 c1 L2 c2 M cb : Nat) (hK : K ≠ 1 /\ K ≠ 3 /\ K ≠ 4 /\ K ≠ 5 /\ K ≠ 6) :
    Calls Tryz.prog 8 #[.pointer (some ⟨pb, 0, none⟩), .agg #[.int .u8 K, .int .i64 m, .slice b1 L1 c1, .slice h1 L2 c2, .int .i64 slot, .int .i64 at_, .slice bo M cb, .int .i64 n]] w fun e w' => DnP pb w e w' := by
  have y1 : (K == 1) = false := by simpa using hK.1
  have y3 : (K == 3) = false := by simpa using hK.2.1
  have y4 : (K == 4) = false := by simpa using hK.2.2.1
  have y5 : (K == 5) = false := by simpa using hK.2.2.2.1
  have y6 : (K == 6) = false := by simpa using hK.2.2.2.2
  obtain ⟨w1, HW1⟩ : ∃ w1, Hid (w.alloc (.cells #[.int .u8 K, .int .i64 m, .slice b1 L1 c1, .slice h1 L2 c2, .int .i64 slot, .int .i64 at_, .slice bo M cb, .int .i64 n] 60) = w1) := ⟨_, rfl⟩
  have hF1 : Fr [] w w1 := by rw [<- HW1.out]; exact Fr.alloc [] w _
  obtain ⟨ob, hob⟩ : ∃ ob, ob = w.heap.size := ⟨_, rfl⟩
  have hb1 : w1.heap[ob]? = some (.cells #[.int .u8 K, .int .i64 m, .slice b1 L1 c1, .slice h1 L2 c2, .int .i64 slot, .int .i64 at_, .slice bo M cb, .int .i64 n] 60 (0, 0)) := by rw [<- HW1.out, hob]; exact heap_alloc_new w _
  have hFd : Fr [] w w1.drew := hF1.then (Fr.drew [] w1)
  have hbd : w1.drew.heap[ob]? = some (.cells #[.int .u8 K, .int .i64 m, .slice b1 L1 c1, .slice h1 L2 c2, .int .i64 slot, .int .i64 at_, .slice bo M cb, .int .i64 n] 60 (0, 0)) := (Fr.drew [] w1).keep hb1 (by simp)
  have hPd : Pn pb w1.drew := hFd.keep h (by simp)
  have HC : Hid (Calls _ _ _ _ _) := zfg (fD := 11) (fR := 27) (aD := #[.pointer none]) (aR := #[.pointer none]) hPd hbd (zok w1.drew) (zor w1.drew)
  have HP : Hid (Pn pb w1.drew /\ Fr [pb] w w1.drew) := ⟨hPd, hFd.mono (by simp)⟩
  have k0 : w1.cell? ⟨ob, 0, none⟩ = some (.int .u8 K) := by rw [cell_of_row _ _ _ _ _ _ hb1]; rfl
  have p0 : w1.drew.cell? ⟨pb, 1, none⟩ = some (.pointer none) := by rw [cell_of_row _ _ _ _ _ _ hPd]; rfl
  have p2 : w1.drew.cell? ⟨pb, 3, none⟩ = some (.pointer none) := by rw [cell_of_row _ _ _ _ _ _ hPd]; rfl
  clear h hb1 hbd hPd hF1 hFd hK
  go_enter Tryz.func8, Tryz.ntmps8
  go_upto_region 1 with fail
  rw [HW1.out, <- hob]
  clear HW1 hob
  go_upto_region 20 with fail
  clear k0
  go_loud (go_region_held3 (fun W => W.cell? ⟨pb, 1, none⟩ = some (.pointer none) /\ W.cell? ⟨pb, 3, none⟩ = some (.pointer none)) (go_keep)
    (first
    | (go_at_call 11; with_reducible refine HC.out.mono ?_; rintro e2 w2 ⟨rfl, q1, q2, HC2⟩; have l0 := q1 1 _ rfl; have l2 := q1 3 _ rfl; clear q1 q2)
    | (go_at_call 27; with_reducible refine HC2.out.mono ?_; rintro e3 w3 ⟨rfl, q1, q2, HR3⟩; have m0 := q1 1 _ rfl; have m2 := q1 3 _ rfl; clear q1 q2)))
  have HR : Hid (DnP pb w (.returned (.bool true)) w3) := by
    obtain rfl := HR3.out
    exact ⟨rfl, HP.out.1, HP.out.2⟩
  clear HR3 HC HC2
  go_wp2
  go_ret
  exact HR.out
theorem zwn {w : World} {pb bk : Nat} {B : List Nat} {K : World -> List Nat -> Prop} (h : Pn pb w) (hB : pb ∉ B)
    (hkeep : ∀ W W' B', K W B' -> Fr [] W W' -> K W' B')
    (htell : ∀ (W : World) (m : Int) (bo : Option Addr) (Lb cb : Nat) (ho : Option Addr) (Lh ch : Nat) (bs : List Int) (hs : List Hd), Fr [] w W -> SvO w W bo Lb cb ho Lh ch bs hs -> Calls Tryz.prog 18 #[.pointer (some ⟨bk, 0, none⟩), .agg #[.int .i64 m, .slice bo Lb cb, .slice ho Lh ch]] W fun e w' => e = .returned (.tuple #[]) /\ ∃ B', K w' B' /\ Fr B W w' /\ ∀ q ∈ B', q ∈ B \/ w.heap.size <= q) :
    Calls Tryz.prog 9 #[.pointer (some ⟨pb, 0, none⟩), .pointer (some ⟨bk, 0, none⟩)] w fun e w' => e = .returned (.bool true) /\ ∃ B', K w' B' /\ Fr B w w' /\ ∀ q ∈ B', q ∈ B \/ w.heap.size <= q := by
  have HPn : Hid (∀ W, Fr [] w W -> Pn pb W) := fun W hf => hf.keep h (by simp)
  have HPb : Hid (∀ W, Pn pb W -> W.cell? ⟨pb, 0, none⟩ = some (.pointer none) /\ W.cell? ⟨pb, 1, none⟩ = some (.pointer none) /\ W.cell? ⟨pb, 2, none⟩ = some (.pointer none) /\ W.cell? ⟨pb, 3, none⟩ = some (.pointer none)) := fun W hb => by
    refine ⟨?_, ?_, ?_, ?_⟩ <;> rw [cell_of_row _ _ _ _ _ _ hb] <;> rfl
  have HTell : Hid (∀ (W : World), Fr [] w W -> Calls Tryz.prog 18 #[.pointer (some ⟨bk, 0, none⟩), .agg #[.int .i64 0, .slice none 0 0, .slice none 0 0]] W fun e w' => e = .returned (.tuple #[]) /\ ∃ B', K w' B' /\ Fr B W w' /\ ∀ q ∈ B', q ∈ B \/ w.heap.size <= q) := fun W hf => htell W 0 none 0 0 none 0 0 [] [] hf (SvO.nil _ _)
  have HKp : Hid ((∀ W W' B', K W B' -> Fr [] W W' -> K W' B') /\ pb ∉ B) := ⟨hkeep, hB⟩
  have HNe : Hid (Calls _ _ _ _ _) := zhi w
  obtain ⟨p0, p1, p2, p3⟩ := HPb.out _ h
  clear h hB hkeep htell
  go_enter Tryz.func9, Tryz.ntmps9
  go_wp2_with fail
  refine Calls.mono HNe.out ?_
  rintro e w1 ⟨rfl, hF1⟩
  obtain ⟨w2, HW2⟩ : ∃ w2, Hid (w1.alloc (.cells #[.int .i64 0, .slice none 0 0, .slice none 0 0] 57) = w2) := ⟨_, rfl⟩
  have hF2 : Fr [] w1 w2 := by rw [<- HW2.out]; exact Fr.alloc [] w1 _
  obtain ⟨A, hA⟩ : ∃ A, A = w1.heap.size := ⟨_, rfl⟩
  have hb2 : w2.heap[A]? = some (.cells #[.int .i64 0, .slice none 0 0, .slice none 0 0] 57 (0, 0)) := by rw [<- HW2.out, hA]; exact heap_alloc_new w1 _
  have HA : Hid (∀ W, Fr [] w2 W -> W.cell? ⟨A, 0, none⟩ = some (.int .i64 0) /\ W.cell? ⟨A, 1, none⟩ = some (.slice none 0 0) /\ W.cell? ⟨A, 2, none⟩ = some (.slice none 0 0)) := fun W hf => zaj (hf.keep hb2 (by simp))
  have HF2 : Hid (Fr [] w w2) := hF1.then hF2
  have HZe : Hid (Calls _ _ _ _ _) := zte w2
  clear hF1 hF2 hb2 HNe p0 p1 p2 p3
  obtain ⟨p0, p1, p2, p3⟩ := HPb.out _ (HPn.out _ HF2.out)
  go_upto_region 2 with fail
  rw [HW2.out, <- hA]
  clear HW2 hA
  go_wp2_with fail
  refine Calls.mono HZe.out ?_
  rintro e w3 ⟨rfl, hF3⟩
  obtain ⟨w4, HW4⟩ : ∃ w4, Hid (w3.alloc (.cells #[.int .i64 0, .slice none 0 0, .slice none 0 0] 57) = w4) := ⟨_, rfl⟩
  have hF4 : Fr [] w3 w4 := by rw [<- HW4.out]; exact Fr.alloc [] w3 _
  obtain ⟨A2, hA2⟩ : ∃ A2, A2 = w3.heap.size := ⟨_, rfl⟩
  have hb4 : w4.heap[A2]? = some (.cells #[.int .i64 0, .slice none 0 0, .slice none 0 0] 57 (0, 0)) := by rw [<- HW4.out, hA2]; exact heap_alloc_new w3 _
  have HF4 : Hid (Fr [] w2 w4 /\ Fr [] w w4) := ⟨hF3.then hF4, HF2.out.then (hF3.then hF4)⟩
  have hC1 : ∀ y : Wd13 w4, Calls Tryz.prog 30 #[.agg #[.int .i64 0, .slice none 0 0, .slice none 0 0], .agg #[.int .i64 0, .slice none 0 0, .slice none 0 0]] y.W fun e w' => e = .returned (.bool true) /\ Fr [] y.W w' := fun y => zjc y.W 0 none none none none 0 0 0 0 0 0 [] [] [] (zlk _) (zlk _) rfl (zll _) (zll _) rfl rfl (by omega)
  have hC2 : ∀ y : Wd13 w4, Calls Tryz.prog 12 #[.pointer none] y.W fun e w' => e = .returned (.int .i64 0) /\ Fr [] y.W w' := fun y => Calls.mono (zoj y.W) (fun e w' h => ⟨h.1, by rw [<- h.2]; exact Fr.refl _ _⟩)
  have hC3 : ∀ y : Wd13 w4, Calls Tryz.prog 31 #[.pointer none] y.W fun e w' => e = .returned (.int .i64 0) /\ Fr [] y.W w' := fun y => Calls.mono (zoq y.W) (fun e w' h => ⟨h.1, by rw [<- h.2]; exact Fr.refl _ _⟩)
  have hC4 : ∀ y : Wd13 w4, Calls Tryz.prog 32 #[.pointer none] y.W fun e w' => e = .returned (.bool false) /\ Fr [] y.W w' := fun y => Calls.mono (zwm y.W) (fun e w' h => ⟨h.1, by rw [<- h.2]; exact Fr.refl _ _⟩)
  have hC5 : ∀ y : Wd13 w4, Calls Tryz.prog 33 #[.pointer none] y.W fun e w' => e = .returned (.bool false) /\ Fr [] y.W w' := fun y => Calls.mono zym (fun e w' h => ⟨h.1, by rw [<- h.2]; exact Fr.refl _ _⟩)
  have hC6 : ∀ y : Wd13 w4, Calls Tryz.prog 34 #[.pointer none] y.W fun e w' => e = .returned (.int .i64 0) /\ Fr [] y.W w' := fun y => Calls.mono (zqf y.W) (fun e w' h => ⟨h.1, by rw [<- h.2]; exact Fr.refl _ _⟩)
  have hC7 : ∀ y : Wd13 w4, Calls Tryz.prog 35 #[.pointer none] y.W fun e w' => e = .returned (.int .i64 0) /\ Fr [] y.W w' := fun y => Calls.mono zsz (fun e w' h => ⟨h.1, by rw [<- h.2]; exact Fr.refl _ _⟩)
  have HB4 : Hid (∀ W, Fr [] w4 W -> W.cell? ⟨A2, 0, none⟩ = some (.int .i64 0) /\ W.cell? ⟨A2, 1, none⟩ = some (.slice none 0 0) /\ W.cell? ⟨A2, 2, none⟩ = some (.slice none 0 0)) := fun W hf => zaj (hf.keep hb4 (by simp))
  have hb0 : ∀ y : Wd13 w4, y.W.cell? ⟨A, 0, none⟩ = some (.int .i64 0) := fun y => (HA.out _ (HF4.out.1.then y.h)).1
  have hb1 : ∀ y : Wd13 w4, y.W.cell? ⟨A, 1, none⟩ = some (.slice none 0 0) := fun y => (HA.out _ (HF4.out.1.then y.h)).2.1
  have hb2 : ∀ y : Wd13 w4, y.W.cell? ⟨A, 2, none⟩ = some (.slice none 0 0) := fun y => (HA.out _ (HF4.out.1.then y.h)).2.2
  have hb3 : ∀ y : Wd13 w4, y.W.cell? ⟨A2, 0, none⟩ = some (.int .i64 0) := fun y => (HB4.out _ y.h).1
  have hb5 : ∀ y : Wd13 w4, y.W.cell? ⟨A2, 1, none⟩ = some (.slice none 0 0) := fun y => (HB4.out _ y.h).2.1
  have hb6 : ∀ y : Wd13 w4, y.W.cell? ⟨A2, 2, none⟩ = some (.slice none 0 0) := fun y => (HB4.out _ y.h).2.2
  have hq0 : ∀ y : Wd13 w4, y.W.cell? ⟨pb, 0, none⟩ = some (.pointer none) := fun y => (HPb.out _ (HPn.out _ (HF4.out.2.then y.h))).1
  have hq1 : ∀ y : Wd13 w4, y.W.cell? ⟨pb, 1, none⟩ = some (.pointer none) := fun y => (HPb.out _ (HPn.out _ (HF4.out.2.then y.h))).2.1
  have hq2 : ∀ y : Wd13 w4, y.W.cell? ⟨pb, 2, none⟩ = some (.pointer none) := fun y => (HPb.out _ (HPn.out _ (HF4.out.2.then y.h))).2.2.1
  have hq3 : ∀ y : Wd13 w4, y.W.cell? ⟨pb, 3, none⟩ = some (.pointer none) := fun y => (HPb.out _ (HPn.out _ (HF4.out.2.then y.h))).2.2.2
  clear hF3 hF4 hb4 HZe p0 p1 p2 p3
  go_upto_region 3 with fail
  rw [HW4.out, <- hA2]
  clear HW4 hA2
  refine zck (w1 := w4) (by kernel_rfl) (by kernel_rfl) (Fr.refl _ _) ?_
  repeat (go_big_quiet_step (first
    | (go_at_call 30; with_reducible refine (hC1 _).mono ?_; exact fun e w3 hh => ⟨hh.1, ⟨_, Fr.then (Wd13.h _) hh.2⟩, rfl⟩)
    | (go_at_call 12; with_reducible refine (hC2 _).mono ?_; exact fun e w3 hh => ⟨hh.1, ⟨_, Fr.then (Wd13.h _) hh.2⟩, rfl⟩)
    | (go_at_call 31; with_reducible refine (hC3 _).mono ?_; exact fun e w3 hh => ⟨hh.1, ⟨_, Fr.then (Wd13.h _) hh.2⟩, rfl⟩)
    | (go_at_call 32; with_reducible refine (hC4 _).mono ?_; exact fun e w3 hh => ⟨hh.1, ⟨_, Fr.then (Wd13.h _) hh.2⟩, rfl⟩)
    | (go_at_call 33; with_reducible refine (hC5 _).mono ?_; exact fun e w3 hh => ⟨hh.1, ⟨_, Fr.then (Wd13.h _) hh.2⟩, rfl⟩)
    | (go_at_call 34; with_reducible refine (hC6 _).mono ?_; exact fun e w3 hh => ⟨hh.1, ⟨_, Fr.then (Wd13.h _) hh.2⟩, rfl⟩)
    | (go_at_call 35; with_reducible refine (hC7 _).mono ?_; exact fun e w3 hh => ⟨hh.1, ⟨_, Fr.then (Wd13.h _) hh.2⟩, rfl⟩)))
  refine wpQuiet_nil ?_
  rintro _ ⟨y, rfl⟩
  clear hb0 hb1 hb2 hb3 hb5 hb6 hq0 hq1 hq2 hq3 hC1 hC2 hC3 hC4 hC5 hC6 hC7
  obtain ⟨w5, hF5⟩ := y
  simp only
  have HF5 : Hid (Fr [] w w5) := HF4.out.2.then hF5
  obtain ⟨a0, a1, a2⟩ := HA.out _ (HF4.out.1.then hF5)
  have HTe : Hid (Calls _ _ _ _ _) := HTell.out w5 HF5.out
  clear hF5
  go_wp2_with fail
  refine Calls.mono HTe.out ?_
  rintro e w6 ⟨rfl, B', hK, hF6, hgr⟩
  have HK : Hid (K w6 B' /\ Fr B w w6 /\ ∀ q ∈ B', q ∈ B \/ w.heap.size <= q) := ⟨hK, (HF5.out.mono (by simp)).then hF6, hgr⟩
  have HPn6 : Hid (∀ W, Fr [] w6 W -> Pn pb W) := fun W hf => hf.keep (hF6.keep (HPn.out _ HF5.out) HKp.out.2) (by simp)
  clear HTe hK hF6 hgr a0 a1 a2 HTell HPn HA HB4
  go_wp2_with fail
  go_loopw [15] (fun ii wr => ∃ j : Nat, ii = .int .i64 (j : Int) /\ j <= 2 /\ Hid (Fr [] w6 wr)) (fun ii _ => 2 - (RowKit.intOf ii).toNat)
  case atStart => exact ⟨0, rfl, by omega, Fr.refl _ _⟩
  case round =>
    obtain ⟨j, rfl, hj2, HFr⟩ := hrel
    by_cases hj : j < 2
    · have hlt : (j : Int) < 2 := by omega
      have HRd : Hid (Calls _ _ _ _ _) := zlm (j : Int) wr
      obtain ⟨p0, _, p2, _⟩ := HPb.out _ (HPn6.out _ HFr.out)
      go_wp2_with fail
      refine Calls.mono HRd.out ?_
      rintro e x1 ⟨rfl, rfl⟩
      have HRr : Hid (Calls Tryz.prog 37 #[.pointer none, .int .i64 (j : Int)] wr fun e w' => e = .returned (.tuple #[.slice none 0 0, .int .i64 2]) /\ wr = w') := zyl (j : Int)
      clear HRd
      go_wp2_with fail
      refine Calls.mono HRr.out ?_
      rintro e x2 ⟨rfl, rfl⟩
      have HSa : Hid (Calls _ _ _ _ _) := zmi none none 0 0 0 0 [] [] wr (Rs.nil _ _) (Rs.nil _ _) rfl rfl rfl
      clear HRr p0 p2
      go_wp2_with fail
      refine Calls.mono HSa.out ?_
      rintro e x3 ⟨rfl, nq, rfl⟩
      have HF8 : Hid (Fr [] w6 (wr.drewN nq)) := HFr.out.then (Fr.drewN _ _ _)
      clear HSa
      go_wp2_with fail
      go_roundw
      case rel => exact ⟨j + 1, by simp, by omega, HF8⟩
      case measure => simp [RowKit.intOf]; omega
    · have hlt : ¬ (j : Int) < 2 := by omega
      have HR : Hid (∃ B', K wr B' /\ Fr B w wr /\ ∀ q ∈ B', q ∈ B \/ w.heap.size <= q) := ⟨B', HKp.out.1 _ _ _ HK.out.1 HFr.out, HK.out.2.1.then (HFr.out.mono (by simp)), HK.out.2.2⟩
      go_wp2
      go_ret
      exact ⟨rfl, HR.out⟩
end Go.Proofs.YtembflnhhfliaaaGreatDoor
