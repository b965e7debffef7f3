/- Texts of this claim laid together, one behind the other: contracts and plain lemmas; conditions as each names them. -/
import Derived.Test.YtomajifklajilaaGreatDoorGp31
import Derived.Test.YtomajifklajilaaGreatDoorGp22
import Derived.Test.YtomajifklajilaaGreatDoorGp29
/- deeds: the array of functions; each of them, by what the shard's call does. Conditions as each names them. -/
namespace Go.Proofs.YtomajifklajilaaGreatDoor
open Go.ChangeShapes Go.WideShapes Go.ChangeAt Go.RowKit Go.Lib
set_option linter.unusedVariables false
set_option linter.unusedSimpArgs false
/-- The array of the functions over the box at Q. -/
def deedA (Q : Nat) : Array Value := #[.nilFunc, .func (Fn.func 68) #[] #[.pointer (some ⟨Q, 0, none⟩)], .func (Fn.func 70) #[] #[.pointer (some ⟨Q, 0, none⟩)], .func (Fn.func 72) #[] #[.pointer (some ⟨Q, 0, none⟩)], .func (Fn.func 74) #[] #[.pointer (some ⟨Q, 0, none⟩)], .func (Fn.func 76) #[] #[.pointer (some ⟨Q, 0, none⟩)]]
theorem deedA_one (Q : Nat) : (#[.nilFunc, .func (Fn.func 68) #[] #[.pointer (some ⟨Q, 0, none⟩)], .func (Fn.func 70) #[] #[.pointer (some ⟨Q, 0, none⟩)], .func (Fn.func 72) #[] #[.pointer (some ⟨Q, 0, none⟩)], .func (Fn.func 74) #[] #[.pointer (some ⟨Q, 0, none⟩)], .func (Fn.func 76) #[] #[.pointer (some ⟨Q, 0, none⟩)]] : Array Value).all (·.oneCell') = true := by simp [Value.oneCell', Value.nilFunc]
set_option maxHeartbeats 1000000 in
set_option maxRecDepth 100000 in
theorem odeeds_any (s : Option Addr) (w : World) : Calls Tryz.prog 19 #[.pointer s] w fun e w' => ∃ Q, e = .returned (.agg #[.nilFunc, .func (Fn.func 68) #[] #[.pointer (some ⟨Q, 0, none⟩)], .func (Fn.func 70) #[] #[.pointer (some ⟨Q, 0, none⟩)], .func (Fn.func 72) #[] #[.pointer (some ⟨Q, 0, none⟩)], .func (Fn.func 74) #[] #[.pointer (some ⟨Q, 0, none⟩)], .func (Fn.func 76) #[] #[.pointer (some ⟨Q, 0, none⟩)]]) ∧ w.heap.size ≤ Q ∧ w'.heap[Q]? = some (.cells #[.pointer s] 64 (0, 0)) ∧ Fr [] w w' := by
  have hQ := (Fr.alloc [] (w.alloc (.cells #[.pointer s] 64)) (.cells #[.nilFunc, .nilFunc, .nilFunc, .nilFunc, .nilFunc, .nilFunc] 72)).keep (heap_alloc_new w (.cells #[.pointer s] 64)) (by simp)
  have hr : ((w.alloc (.cells #[.pointer s] 64)).alloc (.cells #[.nilFunc, .nilFunc, .nilFunc, .nilFunc, .nilFunc, .nilFunc] 72)).heap[w.heap.size + 1]? = some (.cells #[.nilFunc, .nilFunc, .nilFunc, .nilFunc, .nilFunc, .nilFunc] 72 (0, 0)) := by
    rw [show w.heap.size + 1 = (w.alloc (.cells #[.pointer s] 64)).heap.size by simp]
    exact heap_alloc_new _ _
  have HF : Hid (Fr [] w ((w.alloc (.cells #[.pointer s] 64)).alloc (.cells #[.nilFunc, .nilFunc, .nilFunc, .nilFunc, .nilFunc, .nilFunc] 72))) := (Fr.alloc _ _ _).then (Fr.alloc _ _ _)
  have HQ := (show Hid _ from hQ)
  clear hQ
  go_enter Tryz.func19, Tryz.ntmps19
  go_wp2_with (first
    | (refine wpList_storeRow rfl 72 _ _ rfl (w.heap.size + 1) #[.nilFunc, .func (Fn.func 68) #[] #[.pointer (some ⟨w.heap.size, 0, none⟩)], .func (Fn.func 70) #[] #[.pointer (some ⟨w.heap.size, 0, none⟩)], .func (Fn.func 72) #[] #[.pointer (some ⟨w.heap.size, 0, none⟩)], .func (Fn.func 74) #[] #[.pointer (some ⟨w.heap.size, 0, none⟩)], .func (Fn.func 76) #[] #[.pointer (some ⟨w.heap.size, 0, none⟩)]] rfl rfl 72 _ hr (by kernel_rfl) rfl (deedA_one _) ?_; intro w2 HR2 hf2; go_frame)
    | fail)
  refine bodyPost_ret (results_c_row rfl _ _ _ _ _ rfl (run_loadVar_row (P := Tryz.prog) _ _ _ 72 _ _ (.array 6 71) HR2.out (by kernel_rfl) rfl (by kernel_rfl))) rfl ?_
  refine ⟨w.heap.size, rfl, Nat.le_refl _, hf2.keep HQ.out (by simp), HF.out.on hf2 (by intro y hy; simp at hy; omega)⟩
theorem rs_one (t : Int) (ok : Bool) (eo : Option Addr) (el ec : Nat) (ho : Option Addr) (hl hc : Nat) (c : Int) : (#[.int .i64 t, .bool ok, .slice eo el ec, .slice ho hl hc, .int .i64 c] : Array Value).all (·.oneCell') = true := by simp [Value.oneCell']
theorem load_resp {w : World} {g : Nat} {t : Int} {ok : Bool} {eo : Option Addr} {el ec : Nat} {ho : Option Addr} {hl hc : Nat} {c : Int} (h : w.heap[g]? = some (.cells #[.int .i64 t, .bool ok, .slice eo el ec, .slice ho hl hc, .int .i64 c] 51 (0, 0))) : (loadVar 51 ⟨g, 0, none⟩).run Tryz.prog w = .ok (.agg #[.int .i64 t, .bool ok, .slice eo el ec, .slice ho hl hc, .int .i64 c]) w :=
  run_loadVar_row (P := Tryz.prog) _ g _ 51 _ _ (.struct (Tryz.prog.fieldsOf 51)) h (by kernel_rfl) rfl (by kernel_rfl)
section
variable {k f n : Int} {wk wv : ByteArray} {wd : Bool} {key en : ByteArray} {bo : Option Addr} {bl bc : Nat} {s : Option Addr} {q : Nat} {w : World}
/-- The world that a deed's own call begins with. -/
def dW (w : World) (k f n : Int) (wk wv : ByteArray) (wd : Bool) (key en : ByteArray) (bo : Option Addr) (bl bc : Nat) : World := (w.alloc (.cells #[.int .u8 k, .int .i64 f, .int .i64 n, .string wk, .string wv, .bool wd, .string key, .string en, .slice bo bl bc] 28)).alloc (.cells #[.int .i64 0, .bool false, .slice none 0 0, .slice none 0 0, .int .i64 0] 51)
theorem dW_fr : Fr [] w (dW w k f n wk wv wd key en bo bl bc) := (Fr.alloc _ _ _).then (Fr.alloc _ _ _)
theorem dW_row : (dW w k f n wk wv wd key en bo bl bc).heap[w.heap.size + 1]? = some (.cells #[.int .i64 0, .bool false, .slice none 0 0, .slice none 0 0, .int .i64 0] 51 (0, 0)) := by
  unfold dW
  rw [show w.heap.size + 1 = (w.alloc (.cells #[.int .u8 k, .int .i64 f, .int .i64 n, .string wk, .string wv, .bool wd, .string key, .string en, .slice bo bl bc] 28)).heap.size by simp]
  exact heap_alloc_new _ _
set_option maxHeartbeats 2000000 in
set_option maxRecDepth 100000 in
theorem odeed1_in (hc : w.cell? ⟨q, 0, none⟩ = some (.pointer s)) (Qi : Bool → Int → World → Prop)
    (hI : Calls Tryz.prog 69 #[.pointer s, .int .i64 n, .agg #[.string wk, .string wv, .bool wd]] (dW w k f n wk wv wd key en bo bl bc) fun e w' => ∃ (ok : Bool) (c : Int), e = .returned (.tuple #[.bool ok, .int .i64 c]) ∧ Qi ok c w' ∧ w'.heap[w.heap.size + 1]? = some (.cells #[.int .i64 0, .bool false, .slice none 0 0, .slice none 0 0, .int .i64 0] 51 (0, 0))) :
    Calls Tryz.prog 68 #[.agg #[.int .u8 k, .int .i64 f, .int .i64 n, .string wk, .string wv, .bool wd, .string key, .string en, .slice bo bl bc], .pointer (some ⟨q, 0, none⟩)] w fun e w2 => ∃ (ok : Bool) (c : Int) (w' : World), e = .returned (.agg #[.int .i64 0, .bool ok, .slice none 0 0, .slice none 0 0, .int .i64 0]) ∧ Qi ok c w' ∧ Fr [w.heap.size + 1] w' w2 := by
  have HI : Hid (Calls _ _ _ _ _) := hI
  have hc2 := Lib.cell?_alloc_some (.cells #[.int .i64 0, .bool false, .slice none 0 0, .slice none 0 0, .int .i64 0] 51) (Lib.cell?_alloc_some (.cells #[.int .u8 k, .int .i64 f, .int .i64 n, .string wk, .string wv, .bool wd, .string key, .string en, .slice bo bl bc] 28) hc)
  have HS : Hid (w.heap.size + 2 ≤ (dW w k f n wk wv wd key en bo bl bc).heap.size) := by show _ ≤ _; unfold dW; simp
  clear hI
  unfold dW at HI
  go_enter Tryz.func68, Tryz.ntmps68
  go_wp2_with fail
  refine Calls.mono HI.out ?_
  rintro e w1 ⟨ok, c, rfl, hQ, hr⟩
  have HQ : Hid (Qi ok c w1) := hQ
  clear HI hQ hc2
  go_wp2_with (first
    | (refine wpList_storeRow rfl 51 _ _ rfl (w.heap.size + 1) #[.int .i64 0, .bool ok, .slice none 0 0, .slice none 0 0, .int .i64 0] rfl rfl 51 _ hr (by kernel_rfl) rfl (rs_one _ _ _ _ _ _ _ _ _) ?_; intro w2 HR2 hf2; go_frame)
    | fail)
  refine bodyPost_ret (results_c_row rfl _ _ _ _ _ rfl (load_resp HR2.out)) rfl ?_
  exact ⟨ok, c, w1, rfl, HQ.out, hf2⟩
set_option maxHeartbeats 2000000 in
set_option maxRecDepth 100000 in
theorem odeed3_in (hc : w.cell? ⟨q, 0, none⟩ = some (.pointer s)) (Qi : Option Addr → Nat → Nat → World → Prop)
    (hI : Calls Tryz.prog 73 #[.pointer s, .string key, .string en, .int .i64 n] (dW w k f n wk wv wd key en bo bl bc) fun e w' => ∃ (ro : Option Addr) (N : Nat) (rc : Nat), e = .returned (.slice ro N rc) ∧ Qi ro N rc w' ∧ w'.heap[w.heap.size + 1]? = some (.cells #[.int .i64 0, .bool false, .slice none 0 0, .slice none 0 0, .int .i64 0] 51 (0, 0))) :
    Calls Tryz.prog 72 #[.agg #[.int .u8 k, .int .i64 f, .int .i64 n, .string wk, .string wv, .bool wd, .string key, .string en, .slice bo bl bc], .pointer (some ⟨q, 0, none⟩)] w fun e w2 => ∃ (ro : Option Addr) (N : Nat) (rc : Nat) (w' : World), e = .returned (.agg #[.int .i64 0, .bool true, .slice ro N rc, .slice none 0 0, .int .i64 0]) ∧ Qi ro N rc w' ∧ Fr [w.heap.size + 1] w' w2 := by
  have HI : Hid (Calls _ _ _ _ _) := hI
  have hc2 := Lib.cell?_alloc_some (.cells #[.int .i64 0, .bool false, .slice none 0 0, .slice none 0 0, .int .i64 0] 51) (Lib.cell?_alloc_some (.cells #[.int .u8 k, .int .i64 f, .int .i64 n, .string wk, .string wv, .bool wd, .string key, .string en, .slice bo bl bc] 28) hc)
  have HS : Hid (w.heap.size + 2 ≤ (dW w k f n wk wv wd key en bo bl bc).heap.size) := by show _ ≤ _; unfold dW; simp
  clear hI
  unfold dW at HI
  go_enter Tryz.func72, Tryz.ntmps72
  go_wp2_with fail
  refine Calls.mono HI.out ?_
  rintro e w1 ⟨ro, N, rc, rfl, hQ, hr⟩
  have HQ : Hid (Qi ro N rc w1) := hQ
  clear HI hQ hc2
  go_wp2_with (first
    | (refine wpList_storeRow rfl 51 _ _ rfl (w.heap.size + 1) #[.int .i64 0, .bool true, .slice ro N rc, .slice none 0 0, .int .i64 0] rfl rfl 51 _ hr (by kernel_rfl) rfl (rs_one _ _ _ _ _ _ _ _ _) ?_; intro w2 HR2 hf2; go_frame)
    | fail)
  refine bodyPost_ret (results_c_row rfl _ _ _ _ _ rfl (load_resp HR2.out)) rfl ?_
  exact ⟨ro, N, rc, w1, rfl, HQ.out, hf2⟩
set_option maxHeartbeats 2000000 in
set_option maxRecDepth 100000 in
theorem odeed4_in (hc : w.cell? ⟨q, 0, none⟩ = some (.pointer s)) (Qi : Int → World → Prop)
    (hI : Calls Tryz.prog 75 #[.pointer s, .int .i64 n] (dW w k f n wk wv wd key en bo bl bc) fun e w' => ∃ (c : Int), e = .returned (.int .i64 c) ∧ Qi c w' ∧ w'.heap[w.heap.size + 1]? = some (.cells #[.int .i64 0, .bool false, .slice none 0 0, .slice none 0 0, .int .i64 0] 51 (0, 0))) :
    Calls Tryz.prog 74 #[.agg #[.int .u8 k, .int .i64 f, .int .i64 n, .string wk, .string wv, .bool wd, .string key, .string en, .slice bo bl bc], .pointer (some ⟨q, 0, none⟩)] w fun e w2 => ∃ (c : Int) (w' : World), e = .returned (.agg #[.int .i64 0, .bool true, .slice none 0 0, .slice none 0 0, .int .i64 c]) ∧ Qi c w' ∧ Fr [w.heap.size + 1] w' w2 := by
  have HI : Hid (Calls _ _ _ _ _) := hI
  have hc2 := Lib.cell?_alloc_some (.cells #[.int .i64 0, .bool false, .slice none 0 0, .slice none 0 0, .int .i64 0] 51) (Lib.cell?_alloc_some (.cells #[.int .u8 k, .int .i64 f, .int .i64 n, .string wk, .string wv, .bool wd, .string key, .string en, .slice bo bl bc] 28) hc)
  have HS : Hid (w.heap.size + 2 ≤ (dW w k f n wk wv wd key en bo bl bc).heap.size) := by show _ ≤ _; unfold dW; simp
  clear hI
  unfold dW at HI
  go_enter Tryz.func74, Tryz.ntmps74
  go_wp2_with fail
  refine Calls.mono HI.out ?_
  rintro e w1 ⟨c, rfl, hQ, hr⟩
  have HQ : Hid (Qi c w1) := hQ
  clear HI hQ hc2
  go_wp2_with (first
    | (refine wpList_storeRow rfl 51 _ _ rfl (w.heap.size + 1) #[.int .i64 0, .bool true, .slice none 0 0, .slice none 0 0, .int .i64 c] rfl rfl 51 _ hr (by kernel_rfl) rfl (rs_one _ _ _ _ _ _ _ _ _) ?_; intro w2 HR2 hf2; go_frame)
    | fail)
  refine bodyPost_ret (results_c_row rfl _ _ _ _ _ rfl (load_resp HR2.out)) rfl ?_
  exact ⟨c, w1, rfl, HQ.out, hf2⟩
set_option maxHeartbeats 2000000 in
set_option maxRecDepth 100000 in
theorem odeed5_in (hc : w.cell? ⟨q, 0, none⟩ = some (.pointer s)) (Qi : Option Addr → Nat → Nat → World → Prop)
    (hI : Calls Tryz.prog 77 #[.pointer s, .int .i64 n, .slice bo bl bc] (dW w k f n wk wv wd key en bo bl bc) fun e w' => ∃ (ro : Option Addr) (N : Nat) (rc : Nat), e = .returned (.slice ro N rc) ∧ Qi ro N rc w' ∧ w'.heap[w.heap.size + 1]? = some (.cells #[.int .i64 0, .bool false, .slice none 0 0, .slice none 0 0, .int .i64 0] 51 (0, 0))) :
    Calls Tryz.prog 76 #[.agg #[.int .u8 k, .int .i64 f, .int .i64 n, .string wk, .string wv, .bool wd, .string key, .string en, .slice bo bl bc], .pointer (some ⟨q, 0, none⟩)] w fun e w2 => ∃ (ro : Option Addr) (N : Nat) (rc : Nat) (w' : World), e = .returned (.agg #[.int .i64 0, .bool true, .slice none 0 0, .slice ro N rc, .int .i64 0]) ∧ Qi ro N rc w' ∧ Fr [w.heap.size + 1] w' w2 := by
  have HI : Hid (Calls _ _ _ _ _) := hI
  have hc2 := Lib.cell?_alloc_some (.cells #[.int .i64 0, .bool false, .slice none 0 0, .slice none 0 0, .int .i64 0] 51) (Lib.cell?_alloc_some (.cells #[.int .u8 k, .int .i64 f, .int .i64 n, .string wk, .string wv, .bool wd, .string key, .string en, .slice bo bl bc] 28) hc)
  have HS : Hid (w.heap.size + 2 ≤ (dW w k f n wk wv wd key en bo bl bc).heap.size) := by show _ ≤ _; unfold dW; simp
  clear hI
  unfold dW at HI
  go_enter Tryz.func76, Tryz.ntmps76
  go_wp2_with fail
  refine Calls.mono HI.out ?_
  rintro e w1 ⟨ro, N, rc, rfl, hQ, hr⟩
  have HQ : Hid (Qi ro N rc w1) := hQ
  clear HI hQ hc2
  go_wp2_with (first
    | (refine wpList_storeRow rfl 51 _ _ rfl (w.heap.size + 1) #[.int .i64 0, .bool true, .slice none 0 0, .slice ro N rc, .int .i64 0] rfl rfl 51 _ hr (by kernel_rfl) rfl (rs_one _ _ _ _ _ _ _ _ _) ?_; intro w2 HR2 hf2; go_frame)
    | fail)
  refine bodyPost_ret (results_c_row rfl _ _ _ _ _ rfl (load_resp HR2.out)) rfl ?_
  exact ⟨ro, N, rc, w1, rfl, HQ.out, hf2⟩
set_option maxHeartbeats 2000000 in
set_option maxRecDepth 100000 in
theorem odeed2_in (hc : w.cell? ⟨q, 0, none⟩ = some (.pointer s)) (Qi : ByteArray → Bool → World → Prop)
    (hI : Calls Tryz.prog 71 #[.pointer s, .string key, .int .i64 n] (dW w k f n wk wv wd key en bo bl bc) fun e w' => ∃ (v : ByteArray) (ob : Bool), e = .returned (.tuple #[.string v, .bool ob]) ∧ Qi v ob w' ∧ w'.heap[w.heap.size + 1]? = some (.cells #[.int .i64 0, .bool false, .slice none 0 0, .slice none 0 0, .int .i64 0] 51 (0, 0)) ∧ Fr [] (dW w k f n wk wv wd key en bo bl bc) w') :
    Calls Tryz.prog 70 #[.agg #[.int .u8 k, .int .i64 f, .int .i64 n, .string wk, .string wv, .bool wd, .string key, .string en, .slice bo bl bc], .pointer (some ⟨q, 0, none⟩)] w fun e w2 => ∃ (v : ByteArray) (ob : Bool) (w' : World), Qi v ob w' ∧ ((ob = false ∧ e = .returned (.agg #[.int .i64 0, .bool false, .slice none 0 0, .slice none 0 0, .int .i64 0]) ∧ Fr [w.heap.size + 1] w' w2) ∨ (ob = true ∧ ∃ E, e = .returned (.agg #[.int .i64 0, .bool true, .slice (some ⟨E, 0, none⟩) 1 1, .slice none 0 0, .int .i64 0]) ∧ w'.heap.size ≤ E ∧ w2.heap[E]? = some (.cells #[.string key, .string v] 61 (0, 0)) ∧ Fr [w.heap.size + 1] w' w2)) := by
  have HI : Hid (Calls _ _ _ _ _) := hI
  have hc2 := Lib.cell?_alloc_some (.cells #[.int .i64 0, .bool false, .slice none 0 0, .slice none 0 0, .int .i64 0] 51) (Lib.cell?_alloc_some (.cells #[.int .u8 k, .int .i64 f, .int .i64 n, .string wk, .string wv, .bool wd, .string key, .string en, .slice bo bl bc] 28) hc)
  have HS : Hid (w.heap.size + 2 ≤ (dW w k f n wk wv wd key en bo bl bc).heap.size) := by show _ ≤ _; unfold dW; simp
  have HK : Hid (∀ W, Fr [] (dW w k f n wk wv wd key en bo bl bc) W → W.cell? ⟨w.heap.size, 6, none⟩ = some (.string key)) := fun W hf => by
    have h6 := ((Fr.alloc [] (w.alloc (.cells #[.int .u8 k, .int .i64 f, .int .i64 n, .string wk, .string wv, .bool wd, .string key, .string en, .slice bo bl bc] 28)) (.cells #[.int .i64 0, .bool false, .slice none 0 0, .slice none 0 0, .int .i64 0] 51)).then hf).keep (heap_alloc_new w (.cells #[.int .u8 k, .int .i64 f, .int .i64 n, .string wk, .string wv, .bool wd, .string key, .string en, .slice bo bl bc] 28)) (by simp)
    rw [cell_of_row _ _ _ _ _ _ h6]
    rfl
  clear hI
  unfold dW at HI HK
  go_enter Tryz.func70, Tryz.ntmps70
  go_wp2_with fail
  refine Calls.mono HI.out ?_
  rintro e w1 ⟨v, ob, rfl, hQ, hr, hfk⟩
  have HQ : Hid (Qi v ob w1) := hQ
  clear HI hQ hc2
  cases ob with
  | false =>
    go_wp2_with (first
      | (refine wpList_storeRow rfl 51 _ _ rfl (w.heap.size + 1) #[.int .i64 0, .bool false, .slice none 0 0, .slice none 0 0, .int .i64 0] rfl rfl 51 _ hr (by kernel_rfl) rfl (rs_one _ _ _ _ _ _ _ _ _) ?_; intro w2 HR2 hf2; go_frame)
      | fail)
    refine bodyPost_ret (results_c_row rfl _ _ _ _ _ rfl (load_resp HR2.out)) rfl ?_
    exact ⟨v, false, w1, HQ.out, Or.inl ⟨rfl, rfl, hf2⟩⟩
  | true =>
    have cK := HK.out _ hfk
    have hr2 := (Fr.alloc [] w1 (.cells #[.string key, .string v] 61)).keep hr (by simp)
    have hE := heap_alloc_new w1 (.cells #[.string key, .string v] 61)
    have HE := (show Hid _ from hE)
    have HSz : Hid (w.heap.size + 1 < w1.heap.size) := lt_of_block hr
    clear hE
    go_wp2_with (first
      | (refine wpList_storeRow rfl 51 _ _ rfl (w.heap.size + 1) #[.int .i64 0, .bool true, .slice (some ⟨w1.heap.size, 0, none⟩) 1 1, .slice none 0 0, .int .i64 0] rfl rfl 51 _ hr2 (by kernel_rfl) rfl (rs_one _ _ _ _ _ _ _ _ _) ?_; intro w2 HR2 hf2; go_frame)
      | fail)
    refine bodyPost_ret (results_c_row rfl _ _ _ _ _ rfl (load_resp HR2.out)) rfl ?_
    exact ⟨v, true, w1, HQ.out, Or.inr ⟨rfl, w1.heap.size, rfl, Nat.le_refl _, hf2.keep HE.out (by simp; have := HSz.out; omega), ((Fr.alloc [] _ _).mono (by simp)).then hf2⟩⟩
end
end Go.Proofs.YtomajifklajilaaGreatDoor
/- An owner's queue in memory; there, Len, Room, Ask, Serve, by what the shard's call does. Conditions as each names them. -/
namespace Go.Proofs.YtomajifklajilaaGreatDoor
open Go.ChangeShapes Go.WideShapes Go.ChangeAt Go.RowKit Go.Lib
set_option linter.unusedVariables false
set_option linter.unusedSimpArgs false
/-- An owner: its struct lies in block ob, its ring's in block g; the requests xs wait. -/
structure OwQ (w : World) (ob g : Nat) (s : Addr) (pb : Option Nat) (C : Nat) (xs : List Rv) : Prop where
  box : w.heap[ob]? = some (.cells #[.pointer (some s), .pointer (some ⟨g, 0, none⟩)] 67 (0, 0))
  rg : Rg w g pb C xs false
section
variable {w w' : World} {ob g C : Nat} {s : Addr} {pb : Option Nat} {xs : List Rv}
theorem OwQ.keep {S : List Nat} (h : OwQ w ob g s pb C xs) (hf : Fr S w w') (h1 : ob ∉ S) (h2 : g ∉ S) (h3 : ∀ b, pb = some b → b ∉ S) : OwQ w' ob g s pb C xs := ⟨hf.keep h.box h1, h.rg.keep hf h2 h3⟩
theorem OwQ.same (h : OwQ w ob g s pb C xs) (hf : Fr [] w w') : OwQ w' ob g s pb C xs := h.keep hf (by simp) (by simp) (by simp)
theorem OwQ.c0 (h : OwQ w ob g s pb C xs) : w.cell? ⟨ob, 0, none⟩ = some (.pointer (some s)) := by rw [cell_of_row _ _ _ _ _ _ h.box]; rfl
theorem OwQ.c1 (h : OwQ w ob g s pb C xs) : w.cell? ⟨ob, 1, none⟩ = some (.pointer (some ⟨g, 0, none⟩)) := by rw [cell_of_row _ _ _ _ _ _ h.box]; rfl
theorem OwQ.lt (h : OwQ w ob g s pb C xs) : ob < w.heap.size := lt_of_block h.box
theorem OwQ.ng (h : OwQ w ob g s pb C xs) : ob ≠ g := by
  rintro rfl
  obtain ⟨N, F, K, ps, hR⟩ := h.rg
  have := hR.box
  rw [h.box] at this
  simp at this
theorem OwQ.nb (h : OwQ w ob g s pb C xs) : pb ≠ some ob := by
  intro e
  obtain ⟨N, F, K, ps, hR⟩ := h.rg
  have := hR.row ob e
  rw [h.box] at this
  simp at this
theorem OwQ.no (h : OwQ w ob g s pb C xs) : ob ∉ Rg.own g pb := by
  simp only [Rg.own, List.mem_cons, Option.mem_toList, not_or]
  exact ⟨h.ng, h.nb⟩
theorem othere_any (h : OwQ w ob g s pb C xs) : Calls Tryz.prog 14 #[.pointer (some ⟨ob, 0, none⟩)] w fun e w' => e = .returned (.bool true) ∧ w = w' := by
  have c0 := h.c0
  clear h
  go_enter Tryz.func14, Tryz.ntmps14
  go_wp2
  go_ret
  exact ⟨rfl, rfl⟩
set_option maxHeartbeats 2000000 in
set_option maxRecDepth 100000 in
theorem oask_no (h : OwQ w ob g s pb C xs) (x : Rv) (ns : List Int) (hR : RqB w x ns) (hB : ¬ okR (x.q ns)) : Calls Tryz.prog 6 #[.pointer (some ⟨ob, 0, none⟩), x.v] w fun e w' => e = .returned (.tuple #[.bool false, .int .i64 1]) ∧ Fr [] w w' := by
  have hF0 : Fr [] w (w.alloc (.cells #[.int .u8 x.k, .int .i64 x.f, .int .i64 x.n, .string x.wk, .string x.wv, .bool x.wd, .string x.key, .string x.en, .slice x.bo x.bl x.bc] 28)) := Fr.alloc _ _ _
  have HT : Hid (Calls _ _ _ _ _) := othere_any (h.same hF0)
  have HM : Hid (Calls _ _ _ _ _) := omay_any x ns false _ (hR.keep hF0) ⟨fun e => (by cases e), fun e => absurd e hB⟩
  have HF0 : Hid (Fr _ _ _) := hF0
  clear h hR hB hF0
  obtain ⟨xk, xf, xn, xa, xb, xd, xc, xe, xo, xl, xm⟩ := x
  simp only [Rv.v] at HT HM HF0 ⊢
  go_enter Tryz.func6, Tryz.ntmps6
  go_wp2_with fail
  refine Calls.mono HT.out ?_
  rintro e w1 ⟨rfl, rfl⟩
  go_wp2_with fail
  refine Calls.mono HM.out ?_
  rintro e w1 ⟨rfl, hF1⟩
  go_wp2
  go_ret2
  exact ⟨rfl, HF0.out.then hF1⟩
theorem Ab.few : ∀ (ns : List Int) (a : Int), 0 ≤ a → Ab a ns → (ns.length : Int) ≤ 65536 - a ∨ ns = []
  | [], _, _, _ => Or.inr rfl
  | n :: ns, a, h0, h => by
    obtain ⟨h1, h2, h3⟩ := h
    rcases Ab.few ns n (by omega) h3 with h4 | h4
    · exact Or.inl (by simp only [List.length_cons]; omega)
    · subst h4; exact Or.inl (by simp; omega)
theorem okR.few {r : Rq} (h : okR r) : r.bs.length ≤ 65536 := by
  obtain ⟨_, h2, _, h4⟩ := h
  rcases h4 with ⟨_, _, h, _⟩ | ⟨_, _, h, _⟩ | ⟨_, _, h, _⟩ | ⟨_, _, _, h⟩ | ⟨_, _, _, h⟩
  · rw [h]; simp
  · rw [h]; simp
  · rw [h]; simp
  · rw [h]; simp
  · rcases Ab.few _ _ h2 h with h5 | h5
    · omega
    · rw [h5]; simp
/-- What is of another type is none of a ring's blocks. -/
theorem ring_not {w : World} {g C : Nat} {pb : Option Nat} {xs : List Rv} {cl : Bool} (h : Rg w g pb C xs cl) {j : Nat} {cur : Array Value} {t : TypeId} {fr : Nat × Nat} (hj : w.heap[j]? = some (.cells cur t fr)) (h1 : t ≠ 91) (h2 : t ≠ 28) : j ∉ Rg.own g pb := by
  obtain ⟨N, F, K, ps, hR⟩ := h
  simp only [Rg.own, List.mem_cons, Option.mem_toList, not_or]
  refine ⟨fun e => ?_, fun e => ?_⟩
  · subst e
    have := hR.box
    rw [hj] at this
    simp only [Option.some.injEq, Obj.cells.injEq] at this
    exact h1 this.2.1
  · have := hR.row j e
    rw [hj] at this
    simp only [Option.some.injEq, Obj.cells.injEq] at this
    exact h2 this.2.1
/-- The numbers of a request that waits lie in a row of their own. -/
def Nb (w : World) (n : Nat) (ro : Option Addr) : Prop := ∀ a, ro = some a → n ≤ a.block ∧ ∃ cur, w.heap[a.block]? = some (.cells cur 3 (0, 0))
set_option maxHeartbeats 4000000 in
set_option maxRecDepth 100000 in
theorem oask_any (h : OwQ w ob g s pb C xs) (x : Rv) (ns : List Int) (hR : RqB w x ns) (hB : okR (x.q ns)) : Calls Tryz.prog 6 #[.pointer (some ⟨ob, 0, none⟩), x.v] w fun e w' =>
    (xs.length = C ∧ e = .returned (.tuple #[.bool false, .int .i64 0]) ∧ Fr [] w w') ∨
    (xs.length < C ∧ e = .returned (.tuple #[.bool true, .int .i64 0]) ∧ ∃ ro rc pb', OwQ w' ob g s pb' C (xs ++ [⟨x.k, x.f, x.n, x.wk, x.wv, x.wd, x.key, x.en, ro, x.bl, rc⟩]) ∧ IRs w' ro ns ∧ Nb w' w.heap.size ro ∧ Fr (Rg.own g pb) w w' ∧ Mv w.heap.size pb pb') := by
  have hfew : x.bl ≤ 131072 := by have := hB.few; have := hR.len; simp only [Rv.q] at *; omega
  obtain ⟨xk, xf, xn, xa, xb, xd, xc, xe, xo, xl, xm⟩ := x
  simp only [Rv.v] at hfew ⊢
  obtain ⟨wz, HWz⟩ : ∃ wz, Hid (w.alloc (.cells #[.int .u8 xk, .int .i64 xf, .int .i64 xn, .string xa, .string xb, .bool xd, .string xc, .string xe, .slice xo xl xm] 28) = wz) := ⟨_, rfl⟩
  have hF0 : Fr [] w wz := by rw [← HWz.out]; exact Fr.alloc [] w _
  have hrow : wz.heap[w.heap.size]? = some (.cells #[.int .u8 xk, .int .i64 xf, .int .i64 xn, .string xa, .string xb, .bool xd, .string xc, .string xe, .slice xo xl xm] 28 (0, 0)) := by rw [← HWz.out]; exact heap_alloc_new w _
  obtain ⟨Z, HZ⟩ : ∃ Z, Hid (w.heap.size = Z) := ⟨_, rfl⟩
  rw [HZ.out] at hrow
  have HT : Hid (Calls _ _ _ _ _) := othere_any (h.same hF0)
  have HM : Hid (Calls Tryz.prog 15 #[.agg #[.int .u8 xk, .int .i64 xf, .int .i64 xn, .string xa, .string xb, .bool xd, .string xc, .string xe, .slice xo xl xm]] wz fun e w' => e = .returned (.bool true) ∧ Fr [] wz w') := omay_any ⟨xk, xf, xn, xa, xb, xd, xc, xe, xo, xl, xm⟩ ns true _ (hR.keep hF0) ⟨fun _ => hB, fun _ => rfl⟩
  have HC : Hid (∀ W, Fr [] wz W → Calls Tryz.prog 16 #[.slice xo xl xm] W fun e w' => ∃ ro rc, e = .returned (.slice ro xl rc) ∧ IRs w' ro ns ∧ (∀ a, ro = some a → W.heap.size ≤ a.block ∧ ∃ cur, w'.heap[a.block]? = some (.cells cur 3 (0, 0))) ∧ Fr [] W w') := fun W hf => cloneI_any xo xl xm ns W (hR.is.keep (hF0.then hf)) hR.len hfew
  have HQ : Hid (OwQ wz ob g s pb C xs) := h.same hF0
  have HF0 : Hid (Fr [] w wz) := hF0
  have HR0 : Hid (wz.heap[Z]? = _) := hrow
  have HZw : Hid (w.heap.size = Z) := HZ.out
  have hoz : ob ≠ Z := by have := h.lt; rw [← HZ.out]; omega
  have hzo : Z ≠ ob := fun e => hoz e.symm
  have HGz : Hid (g ≠ Z ∧ ∀ b, pb = some b → b ≠ Z) := ⟨by have := h.rg.lt; rw [← HZ.out]; omega, fun b e => by have := h.rg.plt e; rw [← HZ.out]; omega⟩
  have HZs : Hid (Z < wz.heap.size) := lt_of_block hrow
  clear h hR hB hF0 hrow
  go_enter Tryz.func6, Tryz.ntmps6
  go_wp2_with fail
  rw [HWz.out]
  refine Calls.mono HT.out ?_
  rintro e w1 ⟨rfl, rfl⟩
  go_upto_region 3 with fail
  rw [HZ.out]
  have zz := RvAt.ofRow (x := ⟨xk, xf, xn, xa, xb, xd, xc, xe, xo, xl, xm⟩) HR0.out
  obtain ⟨z0, z1, z2, z3, z4, z5, z6, z7, z8⟩ := zz
  simp only [Nat.zero_add] at z0 z1 z2 z3 z4 z5 z6 z7 z8
  go_wp2_with fail
  refine Calls.mono HM.out ?_
  rintro e w1 ⟨rfl, hF1⟩
  clear z0 z1 z2 z3 z4 z5 z6 z7 z8 HM HT
  have hr1 := hF1.keep HR0.out (by simp)
  have zz := RvAt.ofRow (x := ⟨xk, xf, xn, xa, xb, xd, xc, xe, xo, xl, xm⟩) hr1
  have z8 := zz.c8
  simp only [Nat.zero_add] at z8
  go_wp2_with fail
  refine Calls.mono (HC.out _ hF1) ?_
  rintro e w2 ⟨ro, rc, rfl, hI2, hn2, hF2⟩
  have hr2 := hF2.keep hr1 (by simp)
  have y8 : w2.cell? ⟨Z, 8, none⟩ = some (.slice xo xl xm) := by rw [cell_of_row _ _ _ _ _ _ hr2]; rfl
  have f8 : w2.frozen? ⟨Z, 8, none⟩ = false := by simp [World.frozen?, hr2]
  have hr3 : (w2.setCell ⟨Z, 8, none⟩ (.slice ro xl rc)).heap[Z]? = some (.cells #[.int .u8 xk, .int .i64 xf, .int .i64 xn, .string xa, .string xb, .bool xd, .string xc, .string xe, .slice ro xl rc] 28 (0, 0)) := by rw [vrow_setCell _ hr2]; rfl
  have hf3 : Fr [Z] w2 (w2.setCell ⟨Z, 8, none⟩ (.slice ro xl rc)) := Fr.set _ _ _ (by simp)
  have HR3 := (show Hid _ from And.intro hr3 hf3)
  have HSz : Hid (wz.heap.size ≤ w1.heap.size) := hF1.size
  have HI2 : Hid (IRs w2 ro ns ∧ Nb w2 w1.heap.size ro ∧ Fr [] wz w2) := ⟨hI2, hn2, hF1.then hF2⟩
  clear hr1 zz z8 hr2 hr3 hf3 hI2 hn2 HC hF2 hF1
  go_upto_region 6 with fail
  generalize World.setCell _ _ _ = w3 at HR3 ⊢
  have hQ3 : OwQ w3 ob g s pb C xs := (HQ.out.same HI2.out.2.2).keep HR3.out.2 (by simp; exact hoz) (by simp; exact HGz.out.1) (by intro b e; simp; exact HGz.out.2 b e)
  have HQ3 := (show Hid _ from hQ3)
  have HI3 : Hid (IRs w3 ro ns ∧ Nb w3 w.heap.size ro ∧ Fr [] w w3) := by
    obtain ⟨i1, i2, i3⟩ := HI2.out
    have hnz : ∀ a, ro = some a → a.block ≠ Z := fun a e => by have := (i2 a e).1; have := HZs.out; have := HSz.out; omega
    refine ⟨i1.keepS HR3.out.2 (fun _ a e => by simp; exact hnz a e), fun a e => ?_, (HF0.out.then i3).on HR3.out.2 (by intro y hy; simp at hy; have := HZw.out; omega)⟩
    obtain ⟨j1, cur, j2⟩ := i2 a e
    exact ⟨by have := HF0.out.size; have := HSz.out; omega, cur, HR3.out.2.keep j2 (by simp; exact hnz a e)⟩
  have HS : Hid (∀ S W, Fr S w3 W → ob ∉ S → Z ∉ S → (W.cell? ⟨ob, 1, none⟩ = some (.pointer (some ⟨g, 0, none⟩)) ∧ W.cell? ⟨Z, 0, none⟩ = some (.int .u8 xk) ∧ W.cell? ⟨Z, 1, none⟩ = some (.int .i64 xf) ∧ W.cell? ⟨Z, 2, none⟩ = some (.int .i64 xn) ∧ W.cell? ⟨Z, 3, none⟩ = some (.string xa) ∧ W.cell? ⟨Z, 4, none⟩ = some (.string xb) ∧ W.cell? ⟨Z, 5, none⟩ = some (.bool xd) ∧ W.cell? ⟨Z, 6, none⟩ = some (.string xc) ∧ W.cell? ⟨Z, 7, none⟩ = some (.string xe) ∧ W.cell? ⟨Z, 8, none⟩ = some (.slice ro xl rc))) := fun S W hf ho hz => by
    have h1 := hf.keep hQ3.box ho
    have hz := RvAt.ofRow (x := ⟨xk, xf, xn, xa, xb, xd, xc, xe, ro, xl, rc⟩) (hf.keep HR3.out.1 hz)
    exact ⟨by rw [cell_of_row _ _ _ _ _ _ h1]; rfl, hz.c0, hz.c1, hz.c2, hz.c3, hz.c4, hz.c5, hz.c6, hz.c7, hz.c8⟩
  obtain ⟨c1, z0, z1, z2, z3, z4, z5, z6, z7, z8⟩ := HS.out [] w3 (Fr.refl _ _) (by simp) (by simp)
  clear hQ3 HQ HI2 HR0
  by_cases hful : xs.length = C
  · have HP : Hid (∀ W, Fr [] w3 W → Calls Tryz.prog 17 #[.pointer (some ⟨g, 0, none⟩), .agg #[.int .u8 xk, .int .i64 xf, .int .i64 xn, .string xa, .string xb, .bool xd, .string xc, .string xe, .slice ro xl rc]] W fun e w' => e = .returned (.bool false) ∧ Fr [] W w') := fun W hf => by
      obtain ⟨N, F, K, ps, hRg⟩ := (HQ3.out.same hf).rg
      exact gput_full ⟨xk, xf, xn, xa, xb, xd, xc, xe, ro, xl, rc⟩ W hRg (Or.inr (by rw [← hRg.pl.cnt]; exact hful))
    go_region_held3 (fun W => W.cell? ⟨ob, 1, none⟩ = some (.pointer (some ⟨g, 0, none⟩)) ∧ W.cell? ⟨Z, 0, none⟩ = some (.int .u8 xk) ∧ W.cell? ⟨Z, 1, none⟩ = some (.int .i64 xf) ∧ W.cell? ⟨Z, 2, none⟩ = some (.int .i64 xn) ∧ W.cell? ⟨Z, 3, none⟩ = some (.string xa) ∧ W.cell? ⟨Z, 4, none⟩ = some (.string xb) ∧ W.cell? ⟨Z, 5, none⟩ = some (.bool xd) ∧ W.cell? ⟨Z, 6, none⟩ = some (.string xc) ∧ W.cell? ⟨Z, 7, none⟩ = some (.string xe) ∧ W.cell? ⟨Z, 8, none⟩ = some (.slice ro xl rc)) (go_keep)
      (first
        | (with_reducible refine Calls.mono (HP.out _ (Fr.drew _ _)) ?_; rintro e w4 ⟨rfl, hF4⟩; have hF4' := (Fr.drew [] w3).then hF4; obtain ⟨d1, y0, y1, y2, y3, y4, y5, y6, y7, y8⟩ := HS.out [] w4 hF4' (by simp) (by simp)))
    go_wp2
    go_ret2
    exact Or.inl ⟨hful, rfl, HI3.out.2.2.then hF4'⟩
  · have hlt : xs.length < C := by have := HQ3.out.rg.few; omega
    have HP : Hid (∀ W, Fr [] w3 W → Calls Tryz.prog 17 #[.pointer (some ⟨g, 0, none⟩), .agg #[.int .u8 xk, .int .i64 xf, .int .i64 xn, .string xa, .string xb, .bool xd, .string xc, .string xe, .slice ro xl rc]] W fun e w' => e = .returned (.bool true) ∧ ∃ pb', Rg w' g pb' C (xs ++ [⟨xk, xf, xn, xa, xb, xd, xc, xe, ro, xl, rc⟩]) false ∧ Fr (Rg.own g pb) W w' ∧ Mv W.heap.size pb pb') := fun W hf => gput_any ⟨xk, xf, xn, xa, xb, xd, xc, xe, ro, xl, rc⟩ W (HQ3.out.same hf).rg hlt
    have HNz : Hid (Z ∉ Rg.own g pb ∧ ob ∉ Rg.own g pb) := by
      refine ⟨?_, HQ3.out.no⟩
      simp only [Rg.own, List.mem_cons, Option.mem_toList, not_or]
      exact ⟨fun e => HGz.out.1 e.symm, fun e => HGz.out.2 Z e rfl⟩
    go_region_held3 (fun W => W.cell? ⟨ob, 1, none⟩ = some (.pointer (some ⟨g, 0, none⟩)) ∧ W.cell? ⟨Z, 0, none⟩ = some (.int .u8 xk) ∧ W.cell? ⟨Z, 1, none⟩ = some (.int .i64 xf) ∧ W.cell? ⟨Z, 2, none⟩ = some (.int .i64 xn) ∧ W.cell? ⟨Z, 3, none⟩ = some (.string xa) ∧ W.cell? ⟨Z, 4, none⟩ = some (.string xb) ∧ W.cell? ⟨Z, 5, none⟩ = some (.bool xd) ∧ W.cell? ⟨Z, 6, none⟩ = some (.string xc) ∧ W.cell? ⟨Z, 7, none⟩ = some (.string xe) ∧ W.cell? ⟨Z, 8, none⟩ = some (.slice ro xl rc)) (go_keep)
      (first
        | (with_reducible refine Calls.mono (HP.out _ (Fr.drew _ _)) ?_; rintro e w4 ⟨rfl, pb', hR4, hF4, hM4⟩; have hF4' := ((Fr.drew [] w3).mono (by simp)).then hF4; obtain ⟨d1, y0, y1, y2, y3, y4, y5, y6, y7, y8⟩ := HS.out _ w4 hF4' HNz.out.2 HNz.out.1))
    go_wp2
    go_ret2
    refine Or.inr ⟨hlt, rfl, ro, rc, pb', ⟨hF4'.keep HQ3.out.box HNz.out.2, hR4⟩, ?_, ?_, ?_, ?_⟩
    · refine HI3.out.1.keepS hF4' (fun _ a e hm => ?_)
      obtain ⟨_, cur, hcur⟩ := HI3.out.2.1 a e
      exact ring_not HQ3.out.rg hcur (by decide) (by decide) hm
    · intro a e
      obtain ⟨j1, cur, hcur⟩ := HI3.out.2.1 a e
      exact ⟨j1, cur, hF4'.keep hcur (ring_not HQ3.out.rg hcur (by decide) (by decide))⟩
    · exact (HI3.out.2.2.mono (by simp)).then hF4'
    · rcases hM4 with rfl | ⟨k, rfl, hk⟩
      · exact Or.inl rfl
      · exact Or.inr ⟨k, rfl, by have := HI3.out.2.2.size; have : w3.heap.size ≤ k := hk; omega⟩
end
end Go.Proofs.YtomajifklajilaaGreatDoor
