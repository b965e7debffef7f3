/- What a task asks next: next. Conditions as each names them. -/
import Derived.Test.YtpdkdgmaofhlkaaGreatDoorIt17
import Derived.Laws.EntriesVeiled
namespace Go.Proofs.YtpdkdgmaofhlkaaGreatDoor
open Go.ChangeShapes Go.WideShapes Go.ChangeAt Go.RowKit Go.Lib
set_option linter.unusedVariables false
set_option linter.unusedSimpArgs false
attribute [local go_sem] Oper.semAt_some

/-- Between two rounds. -/
structure Nq (w0 : World) (t b2 b3 b4 b5 bb D lr : Nat) (rec : Loop) (v2 : Int) (r3 : Rv) (v4 : Bool) (a5 : Int) (W : World) : Prop where
  c2 : W.heap[b2]? = some (.cells #[.int .i64 v2] 3 (0, 0))
  c3 : W.heap[b3]? = some (.cells r3.a 64 (0, 0))
  c4 : W.heap[b4]? = some (.cells #[.bool v4] 4 (0, 0))
  c5 : W.heap[b5]? = some (.cells #[.int .i64 a5] 3 (0, 0))
  cb : W.heap[bb]? = some (.cells #[.pointer (some ⟨t, 0, none⟩)] 30 (0, 0))
  lp : W.heap[lr]? = some (.loop rec)
  df : W.heap[D]? = some (.deferred (some []))
  fr : Fr [] w0 W
/-- The blocks in their order. -/
structure Nd (w0 : World) (b2 b3 b4 b5 bb D lr : Nat) : Prop where
  a : w0.heap.size ≤ b2 ∧ b2 < b3 ∧ b3 < b4 ∧ b4 < b5 ∧ b5 < bb ∧ bb < D ∧ D < lr
section
variable {w0 W W' : World} {t b2 b3 b4 b5 bb D lr : Nat} {rec : Loop} {v2 a5 : Int} {r3 : Rv} {v4 : Bool}
theorem Nq.quiet (h : Nq w0 t b2 b3 b4 b5 bb D lr rec v2 r3 v4 a5 W) (hf : Fr [] W W') : Nq w0 t b2 b3 b4 b5 bb D lr rec v2 r3 v4 a5 W' :=
  ⟨hf.keep h.c2 (by simp), hf.keep h.c3 (by simp), hf.keep h.c4 (by simp), hf.keep h.c5 (by simp), hf.keep h.cb (by simp), hf.keep h.lp (by simp), hf.keep h.df (by simp), h.fr.then hf⟩
theorem Nq.rec_ (d : Nd w0 b2 b3 b4 b5 bb D lr) (h : Nq w0 t b2 b3 b4 b5 bb D lr rec v2 r3 v4 a5 W) (rec' : Loop) : Nq w0 t b2 b3 b4 b5 bb D lr rec' v2 r3 v4 a5 (W.putObj lr (.loop rec')) := by
  obtain ⟨d0, d1, d2, d3, d4, d5, d6⟩ := d.a
  have hf := Fr.putObj W lr (.loop rec')
  exact ⟨hf.keep h.c2 (by simp; omega), hf.keep h.c3 (by simp; omega), hf.keep h.c4 (by simp; omega), hf.keep h.c5 (by simp; omega), hf.keep h.cb (by simp; omega), World.putObj_heap_same (Array.getElem?_eq_some_iff.1 h.lp).1, hf.keep h.df (by simp; omega), h.fr.on hf (fun x hx => by simp at hx; omega)⟩
theorem Nq.dec (d : Nd w0 b2 b3 b4 b5 bb D lr) (h : Nq w0 t b2 b3 b4 b5 bb D lr rec v2 r3 v4 a5 W) (a' : Int) : Nq w0 t b2 b3 b4 b5 bb D lr rec v2 r3 v4 a' (W.setCell ⟨b5, 0, none⟩ (.int .i64 a')) := by
  obtain ⟨d0, d1, d2, d3, d4, d5, d6⟩ := d.a
  have hf : Fr [b5] W (W.setCell ⟨b5, 0, none⟩ (.int .i64 a')) := Fr.set _ _ _ (by simp)
  exact ⟨hf.keep h.c2 (by simp; omega), hf.keep h.c3 (by simp; omega), hf.keep h.c4 (by simp; omega), row_put17 _ h.c5, hf.keep h.cb (by simp; omega), hf.keep h.lp (by simp; omega), hf.keep h.df (by simp; omega), h.fr.on hf (fun x hx => by simp at hx; omega)⟩
theorem row9_17 {W : World} {b : Nat} {ty : TypeId} {u0 u1 u2 u3 u4 u5 u6 u7 u8 : Value} (v0 v1 v2 v3 v4 v5 v6 v7 v8 : Value) (h : W.heap[b]? = some (.cells #[u0, u1, u2, u3, u4, u5, u6, u7, u8] ty (0, 0))) : (((((((((W.setCell ⟨b, 0, none⟩ v0).setCell ⟨b, 1, none⟩ v1).setCell ⟨b, 2, none⟩ v2).setCell ⟨b, 3, none⟩ v3).setCell ⟨b, 4, none⟩ v4).setCell ⟨b, 5, none⟩ v5).setCell ⟨b, 6, none⟩ v6).setCell ⟨b, 7, none⟩ v7).setCell ⟨b, 8, none⟩ v8).heap[b]? = some (.cells #[v0, v1, v2, v3, v4, v5, v6, v7, v8] ty (0, 0)) := by
  have h0 : (W.setCell ⟨b, 0, none⟩ v0).heap[b]? = some (.cells #[v0, u1, u2, u3, u4, u5, u6, u7, u8] ty (0, 0)) := by rw [row_put17 v0 h]; rfl
  have h1 : ((W.setCell ⟨b, 0, none⟩ v0).setCell ⟨b, 1, none⟩ v1).heap[b]? = some (.cells #[v0, v1, u2, u3, u4, u5, u6, u7, u8] ty (0, 0)) := by rw [row_put17 v1 h0]; rfl
  have h2 : (((W.setCell ⟨b, 0, none⟩ v0).setCell ⟨b, 1, none⟩ v1).setCell ⟨b, 2, none⟩ v2).heap[b]? = some (.cells #[v0, v1, v2, u3, u4, u5, u6, u7, u8] ty (0, 0)) := by rw [row_put17 v2 h1]; rfl
  have h3 : ((((W.setCell ⟨b, 0, none⟩ v0).setCell ⟨b, 1, none⟩ v1).setCell ⟨b, 2, none⟩ v2).setCell ⟨b, 3, none⟩ v3).heap[b]? = some (.cells #[v0, v1, v2, v3, u4, u5, u6, u7, u8] ty (0, 0)) := by rw [row_put17 v3 h2]; rfl
  have h4 : (((((W.setCell ⟨b, 0, none⟩ v0).setCell ⟨b, 1, none⟩ v1).setCell ⟨b, 2, none⟩ v2).setCell ⟨b, 3, none⟩ v3).setCell ⟨b, 4, none⟩ v4).heap[b]? = some (.cells #[v0, v1, v2, v3, v4, u5, u6, u7, u8] ty (0, 0)) := by rw [row_put17 v4 h3]; rfl
  have h5 : ((((((W.setCell ⟨b, 0, none⟩ v0).setCell ⟨b, 1, none⟩ v1).setCell ⟨b, 2, none⟩ v2).setCell ⟨b, 3, none⟩ v3).setCell ⟨b, 4, none⟩ v4).setCell ⟨b, 5, none⟩ v5).heap[b]? = some (.cells #[v0, v1, v2, v3, v4, v5, u6, u7, u8] ty (0, 0)) := by rw [row_put17 v5 h4]; rfl
  have h6 : (((((((W.setCell ⟨b, 0, none⟩ v0).setCell ⟨b, 1, none⟩ v1).setCell ⟨b, 2, none⟩ v2).setCell ⟨b, 3, none⟩ v3).setCell ⟨b, 4, none⟩ v4).setCell ⟨b, 5, none⟩ v5).setCell ⟨b, 6, none⟩ v6).heap[b]? = some (.cells #[v0, v1, v2, v3, v4, v5, v6, u7, u8] ty (0, 0)) := by rw [row_put17 v6 h5]; rfl
  have h7 : ((((((((W.setCell ⟨b, 0, none⟩ v0).setCell ⟨b, 1, none⟩ v1).setCell ⟨b, 2, none⟩ v2).setCell ⟨b, 3, none⟩ v3).setCell ⟨b, 4, none⟩ v4).setCell ⟨b, 5, none⟩ v5).setCell ⟨b, 6, none⟩ v6).setCell ⟨b, 7, none⟩ v7).heap[b]? = some (.cells #[v0, v1, v2, v3, v4, v5, v6, v7, u8] ty (0, 0)) := by rw [row_put17 v7 h6]; rfl
  have h8 : (((((((((W.setCell ⟨b, 0, none⟩ v0).setCell ⟨b, 1, none⟩ v1).setCell ⟨b, 2, none⟩ v2).setCell ⟨b, 3, none⟩ v3).setCell ⟨b, 4, none⟩ v4).setCell ⟨b, 5, none⟩ v5).setCell ⟨b, 6, none⟩ v6).setCell ⟨b, 7, none⟩ v7).setCell ⟨b, 8, none⟩ v8).heap[b]? = some (.cells #[v0, v1, v2, v3, v4, v5, v6, v7, v8] ty (0, 0)) := by rw [row_put17 v8 h7]; rfl
  exact h8
end
theorem results_ccc_row {fn : Func} {p q u : Tmp} {t1 t2 t3 : TypeId} (h : fn.results = #[.cell p t1, .cell q t2, .cell u t3]) (tmps : Array Value) (P : Program) (w : World) (a b c : Nat) (x y z : Value) (hp : tmps.getD p undef = .pointer (some ⟨a, 0, none⟩)) (hq : tmps.getD q undef = .pointer (some ⟨b, 0, none⟩)) (hu : tmps.getD u undef = .pointer (some ⟨c, 0, none⟩))
    (h1 : (loadVar t1 ⟨a, 0, none⟩).run P w = .ok x w) (h2 : (loadVar t2 ⟨b, 0, none⟩).run P w = .ok y w) (h3 : (loadVar t3 ⟨c, 0, none⟩).run P w = .ok z w) :
    (results fn tmps).run P w = .ok (.tuple #[x, y, z]) w := by
  simp only [results, h]
  simp [Sem.run_bind, Result.andThen, ← Array.getD_eq_getD_getElem?, hp, hq, hu, asAddr, h1, h2, h3]
theorem load_int17 {w : World} {g : Nat} {x : Int} (h : w.heap[g]? = some (.cells #[.int .i64 x] 3 (0, 0))) : (loadVar 3 ⟨g, 0, none⟩).run Tryz.prog w = .ok (.int .i64 x) w := by
  have hc : w.cell? ⟨g, 0, none⟩ = some (.int .i64 x) := by rw [cell_of_row _ _ _ _ _ _ h]; rfl
  go_simp
theorem load_bool17 {w : World} {g : Nat} {x : Bool} (h : w.heap[g]? = some (.cells #[.bool x] 4 (0, 0))) : (loadVar 4 ⟨g, 0, none⟩).run Tryz.prog w = .ok (.bool x) w := by
  have hc : w.cell? ⟨g, 0, none⟩ = some (.bool x) := by rw [cell_of_row _ _ _ _ _ _ h]; rfl
  go_simp
/-- What next answers. -/
def Tk.nxS (T : Tk) : Int := if T.bg = true ∧ T.ak < T.nR then T.sh T.ak else 0
def Tk.nxR (T : Tk) : Rv := if T.bg = true ∧ T.ak < T.nR then T.r else Rv.zero
def Tk.nxB (T : Tk) : Bool := decide (T.bg = true ∧ T.ak < T.nR)
set_option maxHeartbeats 1000000 in
theorem qnext_no {p : Value} {w : World} (h : NoT p w) : Calls Tryz.prog 24 #[p] w fun e w' => e = .returned (.tuple #[.int .i64 0, Rv.zero.v, .bool false]) ∧ Fr [] w w' := by
  have hF : Fr [] w (((w.alloc (.cells #[.int .i64 0] 3)).alloc (.cells Rv.zero.a 64)).alloc (.cells #[.bool false] 4)) := ((Fr.alloc [] _ _).then (Fr.alloc [] _ _)).then (Fr.alloc [] _ _)
  have HF : Hid (Fr [] w _) := hF
  have HT : Hid (Calls _ _ _ _ _) := qthere_no (h.keep hF)
  have hp : ∃ o, p = .pointer o := by
    rcases h with h | ⟨t, e, _⟩
    · exact ⟨_, h⟩
    · exact ⟨_, e⟩
  obtain ⟨o, rfl⟩ := hp
  clear h hF
  simp only [Rv.a, Rv.zero] at HT HF
  go_enter Tryz.func24, Tryz.ntmps24
  go_wp2_with fail
  refine Calls.mono HT.out ?_
  rintro e w1 ⟨rfl, rfl⟩
  go_wp2
  refine bodyPost_ret (results_ccc_row rfl _ _ _ w.heap.size (w.heap.size + 1) (w.heap.size + 1 + 1) _ _ _ rfl rfl rfl (load_int17 (x := 0) ?_) (load_req Rv.zero ?_) (load_bool17 (x := false) ?_)) rfl ?_
  · exact (Below.heap_alloc _ _ _ (by simp; omega)).trans ((Below.heap_alloc _ _ _ (by simp)).trans (heap_alloc_new w _))
  · exact (Below.heap_alloc _ _ _ (by simp)).trans (heap_at1 _ _ _)
  · exact heap_at2 _ _ _ _
  · exact ⟨rfl, HF.out⟩
set_option maxHeartbeats 1000000 in
theorem qnext_un {w : World} {t : Nat} {T : Tk} (h : TkM w t T) (hn : T.n < 0) (hb : T.bg = false) : Calls Tryz.prog 24 #[.pointer (some ⟨t, 0, none⟩)] w fun e w' => e = .returned (.tuple #[.int .i64 0, Rv.zero.v, .bool false]) ∧ Fr [] w w' := by
  have hF : Fr [] w (((w.alloc (.cells #[.int .i64 0] 3)).alloc (.cells Rv.zero.a 64)).alloc (.cells #[.bool false] 4)) := ((Fr.alloc [] _ _).then (Fr.alloc [] _ _)).then (Fr.alloc [] _ _)
  have HF : Hid (Fr [] w _) := hF
  have hk := h.keep hF (by simp)
  have HT : Hid (Calls _ _ _ _ _) := qthere_any hk hn
  have c8 := hk.c8
  rw [hb] at c8
  clear h hF hk
  simp only [Rv.a, Rv.zero] at HT HF c8
  go_enter Tryz.func24, Tryz.ntmps24
  go_wp2_with fail
  refine Calls.mono HT.out ?_
  rintro e w1 ⟨rfl, rfl⟩
  go_wp2
  refine bodyPost_ret (results_ccc_row rfl _ _ _ w.heap.size (w.heap.size + 1) (w.heap.size + 1 + 1) _ _ _ rfl rfl rfl (load_int17 (x := 0) ?_) (load_req Rv.zero ?_) (load_bool17 (x := false) ?_)) rfl ?_
  · exact (Below.heap_alloc _ _ _ (by simp; omega)).trans ((Below.heap_alloc _ _ _ (by simp)).trans (heap_alloc_new w _))
  · exact (Below.heap_alloc _ _ _ (by simp)).trans (heap_at1 _ _ _)
  · exact heap_at2 _ _ _ _
  · exact ⟨rfl, HF.out⟩
end Go.Proofs.YtpdkdgmaofhlkaaGreatDoor
