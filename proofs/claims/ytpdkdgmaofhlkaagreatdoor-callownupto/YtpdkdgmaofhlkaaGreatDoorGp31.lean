/- Texts of this claim laid together, one behind the other: contracts and plain lemmas; conditions as each names them. -/
import Derived.Test.YtpdkdgmaofhlkaaGreatDoorGp30
/- What a task has found, in memory of its own: entries, keys with their versions. Conditions as each names them. -/
namespace Go.Proofs.YtpdkdgmaofhlkaaGreatDoor
open Go.ChangeShapes Go.WideShapes Go.ChangeAt Go.RowKit Go.Lib
set_option linter.unusedVariables false
set_option linter.unusedSimpArgs false
/-- A row is kept where all that changes is of other types. -/
theorem owns_keepT {S : List Nat} {w w' : World} {base : Nat} {e : TypeId} {size : Nat} {v : Value} {n : Nat} {xs : List Value} (h : w.ownsRow base e size v n xs) (hf : Fr S w w') (hS : ∀ k ∈ S, ∀ cur, w.heap[k]? ≠ some (.cells cur e (0, 0))) : w'.ownsRow base e size v n xs :=
  owns_keepB h hf fun k hk hm => by
    obtain ⟨_, cur, hc⟩ := owns_cells h hk
    exact hS k hm cur hc
theorem owns_zero {w : World} {base : Nat} {e : TypeId} {size : Nat} {v : Value} {n : Nat} {xs : List Value} (h : w.ownsRow base e size v n xs) : w.ownsRow 0 e size v n xs := own_base h (Nat.zero_le _)
/-- The entries that were found, reply by reply; B: the blocks that they take. -/
structure FE (w : World) (B : List Nat) (v : Value) (els : List ElE) : Prop where
  row : w.ownsRow 0 50 1 v els.length (els.map ElE.v)
  rb : ∀ k, v.ownBlock = some k → k ∈ B
  each : ∀ e ∈ els, w.ownsRow 0 102 2 e.v e.L (eysC e.xs) ∧ e.L = e.xs.length ∧ e.L ≤ 4194304
  eb : ∀ e ∈ els, ∀ k, e.v.ownBlock = some k → k ∈ B
theorem FE.nil (w : World) (B : List Nat) : FE w B (.slice none 0 0) [] := ⟨⟨rfl, .inl ⟨rfl, rfl⟩⟩, fun k hk => by simp [Value.ownBlock] at hk, by simp, by simp⟩
theorem FE.keep {S : List Nat} {w w' : World} {B : List Nat} {v : Value} {els : List ElE} (h : FE w B v els) (hf : Fr S w w') (hn : ∀ b ∈ B, b ∉ S) : FE w' B v els :=
  ⟨owns_keepB h.row hf (fun k hk => hn k (h.rb k hk)), h.rb, fun e he => ⟨owns_keepB (h.each e he).1 hf (fun k hk => hn k (h.eb e he k hk)), (h.each e he).2⟩, h.eb⟩
theorem FE.more {w : World} {B B' : List Nat} {v : Value} {els : List ElE} (h : FE w B v els) (hB : ∀ b ∈ B, b ∈ B') : FE w B' v els := ⟨h.row, fun k hk => hB k (h.rb k hk), h.each, fun e he k hk => hB k (h.eb e he k hk)⟩
theorem FE.ll {w : World} {B : List Nat} {ao : Option Addr} {N c : Nat} {els : List ElE} (h : FE w B (.slice ao N c) els) (hN : N = els.length) (hf : els.length ≤ 17) : LLE w ao els := by
  refine ⟨fun h0 => ?_, fun e he => ⟨RrE.of_own (h.each e he).1 (h.each e he).2.1, (h.each e he).2⟩, hf⟩
  have hr := h.row
  rw [← hN] at hr
  obtain ⟨g, rfl, _⟩ := own_some hr (by omega)
  obtain ⟨_, cur, hc⟩ := owns_cells hr (k := g) rfl
  refine ⟨g, rfl, lt_of_block hc, fun i hi => own_cell hr ?_⟩
  simp [List.getD, hi]
/-- A key's versions, in a row of their own. -/
structure HOwn (w : World) (h : Hd) : Prop where
  own : ∃ rc, w.ownsRow 0 134 3 (.slice h.vo h.L rc) h.L (vnsC h.vs)
  len : h.L = h.vs.length
  few : h.vs.length ≤ 4398046511104
  each : ∀ x ∈ h.vs, VEach x
theorem HOwn.ec {w : World} {h : Hd} (x : HOwn w h) : HEc w h := by
  obtain ⟨rc, ho⟩ := x.own
  exact ⟨VRs.of_own ho x.len x.few x.each, x.len⟩
theorem HOwn.keepB {S : List Nat} {w w' : World} {h : Hd} (x : HOwn w h) (hf : Fr S w w') (hn : ∀ a, h.vo = some a → a.block ∉ S) : HOwn w' h := by
  obtain ⟨rc, ho⟩ := x.own
  refine ⟨⟨rc, owns_keepB ho hf fun k hk => ?_⟩, x.len, x.few, x.each⟩
  cases hv : h.vo with
  | none => rw [hv] at hk; simp [Value.ownBlock] at hk
  | some a => rw [hv] at hk; simp [Value.ownBlock] at hk; subst hk; exact hn a hv
theorem HOwn.keepT {S : List Nat} {w w' : World} {h : Hd} (x : HOwn w h) (hf : Fr S w w') (hS : ∀ k ∈ S, ∀ cur, w.heap[k]? ≠ some (.cells cur 134 (0, 0))) : HOwn w' h := by
  obtain ⟨rc, ho⟩ := x.own
  exact ⟨⟨rc, owns_keepT ho hf hS⟩, x.len, x.few, x.each⟩
/-- The keys with their versions that were found, reply by reply. -/
structure FH (w : World) (B : List Nat) (v : Value) (els : List ElH) : Prop where
  row : w.ownsRow 0 51 1 v els.length (els.map ElH.v)
  rb : ∀ k, v.ownBlock = some k → k ∈ B
  each : ∀ e ∈ els, w.ownsRow 0 97 2 e.v e.L (hdsC e.xs) ∧ e.L = e.xs.length ∧ e.L ≤ 4194304
  eb : ∀ e ∈ els, ∀ k, e.v.ownBlock = some k → k ∈ B
  vers : ∀ e ∈ els, ∀ h ∈ e.xs, HOwn w h ∧ ∀ a, h.vo = some a → a.block ∈ B
theorem FH.nil (w : World) (B : List Nat) : FH w B (.slice none 0 0) [] := ⟨⟨rfl, .inl ⟨rfl, rfl⟩⟩, fun k hk => by simp [Value.ownBlock] at hk, by simp, by simp, by simp⟩
theorem FH.keep {S : List Nat} {w w' : World} {B : List Nat} {v : Value} {els : List ElH} (h : FH w B v els) (hf : Fr S w w') (hn : ∀ b ∈ B, b ∉ S) : FH w' B v els :=
  ⟨owns_keepB h.row hf (fun k hk => hn k (h.rb k hk)), h.rb, fun e he => ⟨owns_keepB (h.each e he).1 hf (fun k hk => hn k (h.eb e he k hk)), (h.each e he).2⟩, h.eb, fun e he x hx => ⟨(h.vers e he x hx).1.keepB hf (fun a ha => hn _ ((h.vers e he x hx).2 a ha)), (h.vers e he x hx).2⟩⟩
theorem FH.ll {w : World} {B : List Nat} {ao : Option Addr} {N c : Nat} {els : List ElH} (h : FH w B (.slice ao N c) els) (hN : N = els.length) (hf : els.length ≤ 17) : LLH w ao els := by
  refine ⟨fun h0 => ?_, fun e he => ⟨RrH.of_own (h.each e he).1 (h.each e he).2.1, (h.each e he).2⟩, hf⟩
  have hr := h.row
  rw [← hN] at hr
  obtain ⟨g, rfl, _⟩ := own_some hr (by omega)
  obtain ⟨_, cur, hc⟩ := owns_cells hr (k := g) rfl
  refine ⟨g, rfl, lt_of_block hc, fun i hi => own_cell hr ?_⟩
  simp [List.getD, hi]
theorem FE.shape {w : World} {B : List Nat} {v : Value} {els : List ElE} (h : FE w B v els) : ∃ so c, v = .slice so els.length c := own_shapeE h.row
theorem FH.shape {w : World} {B : List Nat} {v : Value} {els : List ElH} (h : FH w B v els) : ∃ so c, v = .slice so els.length c := own_shapeE h.row
/-- What a row takes: its own block. -/
def obs (v : Value) : List Nat := v.ownBlock.toList
theorem obs_iff (v : Value) (k : Nat) : k ∈ obs v ↔ v.ownBlock = some k := by unfold obs; simp [Option.mem_toList]
theorem tk_ne {w : World} {t : Nat} {T : Tk} (h : TkM w t T) {e : TypeId} (he : e ≠ 82) : ∀ cur, w.heap[t]? ≠ some (.cells cur e (0, 0)) := fun cur hc => by
  unfold TkM at h
  rw [h] at hc
  simp only [Option.some.injEq, Obj.cells.injEq] at hc
  exact he hc.2.1.symm
theorem own_ne {w : World} {base : Nat} {e e' : TypeId} {size : Nat} {v : Value} {n : Nat} {xs : List Value} (h : w.ownsRow base e size v n xs) (he : e' ≠ e) : ∀ k ∈ v.ownBlock.toList, ∀ cur, w.heap[k]? ≠ some (.cells cur e' (0, 0)) := fun k hk cur hc => by
  obtain ⟨_, cur2, h2⟩ := owns_cells h (Option.mem_toList.1 hk)
  rw [h2] at hc
  simp only [Option.some.injEq, Obj.cells.injEq] at hc
  exact he hc.2.1.symm
/-- Entries are added. -/
theorem FE.add {W w' : World} {B : List Nat} {t : Nat} {T : Tk} {so : Option Addr} {c L : Nat} {els : List ElE} {es : List Ey} (h : TkM W t T) (hE : FE W B (.slice so els.length c) els) (hL : L = es.length) (hm : L ≤ 4194304)
    (ha : AdqE W w' t T so els.length c (els.map ElE.v) L (fun V w1 ro rc => w1.ownsRow V.heap.size 102 2 (.slice ro L rc) L (eysC es))) :
    ∃ v' x B', TkM w' t { T with ev := v' } ∧ FE w' B' v' (els ++ [x]) ∧ x.xs = es ∧ (∀ b ∈ B', b ∈ B ∨ (W.heap.size ≤ b ∧ b < w'.heap.size)) ∧ (∀ b ∈ B, b ∈ B') ∧ Fr (t :: B) W w' := by
  obtain ⟨so', c', ro, rc, V, w1, hk, hrow, hP, hf, hf1, hf2, hmv⟩ := ha.ex
  have hW1 := hf.then hf1
  have htk1 := h.keep hW1 (by simp)
  have hr1 := owns_keepB hE.row hW1 (by simp)
  have hS : ∀ {e : TypeId}, e ≠ 82 → e ≠ 50 → ∀ k ∈ t :: (Value.slice so els.length c).ownBlock.toList, ∀ cur, w1.heap[k]? ≠ some (.cells cur e (0, 0)) := fun he1 he2 k hk => by
    rcases List.mem_cons.1 hk with e | e
    · rw [e]; exact tk_ne htk1 he1
    · exact own_ne hr1 he2 k e
  refine ⟨.slice so' (els.length + 1) c', ⟨ro, L, rc, es⟩, B ++ (obs (.slice so' (els.length + 1) c') ++ obs (.slice ro L rc)), hk, ⟨?_, ?_, ?_, ?_⟩, rfl, ?_, fun b hb => List.mem_append_left _ hb, ?_⟩
  · rw [List.length_append, List.map_append]
    exact hrow
  · intro k hk
    exact List.mem_append_right _ (List.mem_append_left _ ((obs_iff _ _).2 hk))
  · intro e he
    rcases List.mem_append.1 he with he | he
    · exact ⟨owns_keepT (owns_keepB (hE.each e he).1 hW1 (by simp)) hf2 (hS (by decide) (by decide)), (hE.each e he).2⟩
    · simp at he
      subst he
      exact ⟨owns_keepT (owns_zero hP) hf2 (hS (by decide) (by decide)), hL, hm⟩
  · intro e he k hk
    rcases List.mem_append.1 he with he | he
    · exact List.mem_append_left _ (hE.eb e he k hk)
    · simp at he
      subst he
      exact List.mem_append_right _ (List.mem_append_right _ ((obs_iff _ _).2 hk))
  · intro b hb
    rcases List.mem_append.1 hb with hb | hb
    · exact Or.inl hb
    · rcases List.mem_append.1 hb with hb | hb
      · rw [obs_iff] at hb
        rcases hmv b hb with e | e
        · exact Or.inl (hE.rb b e)
        · obtain ⟨_, cur, hc⟩ := owns_cells hrow hb
          exact Or.inr ⟨e, lt_of_block hc⟩
      · rw [obs_iff] at hb
        obtain ⟨h1, cur, hc⟩ := owns_cells hP hb
        have := hf.size
        have := lt_of_block hc
        have := hf2.size
        exact Or.inr ⟨by omega, by omega⟩
  · refine (hW1.mono (by intro x hx; simp at hx)).then (hf2.mono fun x hx _ => ?_)
    rcases List.mem_cons.1 hx with e | e
    · simp [e]
    · exact List.mem_cons_of_mem _ (hE.rb x (Option.mem_toList.1 e))
/-- Keys with their versions are added. -/
theorem FH.add {W w' : World} {B : List Nat} {t : Nat} {T : Tk} {so : Option Addr} {c L : Nat} {els : List ElH} {hs : List Hd} (h : TkM W t T) (hE : FH W B (.slice so els.length c) els) (hm : L ≤ 4194304) (hv : ∀ x ∈ hs, x.vs.length ≤ 4398046511104 ∧ ∀ y ∈ x.vs, VEach y)
    (ha : AdqH W w' t T so els.length c (els.map ElH.v) L (fun V w1 ro rc => ∃ hs', HOut V w1 ro L rc hs' ∧ hs'.map Hd.kv = hs.map Hd.kv)) :
    ∃ v' x B', TkM w' t { T with hv := v' } ∧ FH w' B' v' (els ++ [x]) ∧ x.xs.map Hd.kv = hs.map Hd.kv ∧ (∀ b ∈ B', b ∈ B ∨ (W.heap.size ≤ b ∧ b < w'.heap.size)) ∧ (∀ b ∈ B, b ∈ B') ∧ Fr (t :: B) W w' := by
  obtain ⟨so', c', ro, rc, V, w1, hk, hrow, ⟨hs', hP, hkv⟩, hf, hf1, hf2, hmv⟩ := ha.ex
  have hW1 := hf.then hf1
  have htk1 := h.keep hW1 (by simp)
  have hr1 := owns_keepB hE.row hW1 (by simp)
  have hS : ∀ {e : TypeId}, e ≠ 82 → e ≠ 51 → ∀ k ∈ t :: (Value.slice so els.length c).ownBlock.toList, ∀ cur, w1.heap[k]? ≠ some (.cells cur e (0, 0)) := fun he1 he2 k hk => by
    rcases List.mem_cons.1 hk with e | e
    · rw [e]; exact tk_ne htk1 he1
    · exact own_ne hr1 he2 k e
  have hkn : ∀ x ∈ hs', HOwn w1 x := fun x hx => by
    obtain ⟨rf, _, ho⟩ := (hP.each x hx).own
    have hm : x.kv ∈ hs.map Hd.kv := by rw [← hkv]; exact List.mem_map.2 ⟨x, hx, rfl⟩
    obtain ⟨y, hy, e⟩ := List.mem_map.1 hm
    have e2 : y.vs = x.vs := (Prod.mk.inj e).2
    exact ⟨⟨rf, owns_zero ho⟩, (hP.each x hx).len, by rw [← e2]; exact (hv y hy).1, by rw [← e2]; exact (hv y hy).2⟩
  refine ⟨.slice so' (els.length + 1) c', ⟨ro, L, rc, hs'⟩, B ++ (obs (.slice so' (els.length + 1) c') ++ (obs (.slice ro L rc) ++ hs'.flatMap fun x => obs (.slice x.vo x.L x.cap))), hk, ⟨?_, ?_, ?_, ?_, ?_⟩, hkv, ?_, fun b hb => List.mem_append_left _ hb, ?_⟩
  · rw [List.length_append, List.map_append]
    exact hrow
  · intro k hk
    exact List.mem_append_right _ (List.mem_append_left _ ((obs_iff _ _).2 hk))
  · intro e he
    rcases List.mem_append.1 he with he | he
    · exact ⟨owns_keepT (owns_keepB (hE.each e he).1 hW1 (by simp)) hf2 (hS (by decide) (by decide)), (hE.each e he).2⟩
    · simp at he
      subst he
      exact ⟨owns_keepT (owns_zero hP.row) hf2 (hS (by decide) (by decide)), hP.len, hm⟩
  · intro e he k hk
    rcases List.mem_append.1 he with he | he
    · exact List.mem_append_left _ (hE.eb e he k hk)
    · simp at he
      subst he
      exact List.mem_append_right _ (List.mem_append_right _ (List.mem_append_left _ ((obs_iff _ _).2 hk)))
  · intro e he x hx
    rcases List.mem_append.1 he with he | he
    · exact ⟨((hE.vers e he x hx).1.keepB hW1 (by simp)).keepT hf2 (hS (by decide) (by decide)), fun a ha => List.mem_append_left _ ((hE.vers e he x hx).2 a ha)⟩
    · simp at he
      subst he
      refine ⟨(hkn x hx).keepT hf2 (hS (by decide) (by decide)), fun a ha => List.mem_append_right _ (List.mem_append_right _ (List.mem_append_right _ (List.mem_flatMap.2 ⟨x, hx, ?_⟩)))⟩
      rw [obs_iff, ha]
      rfl
  · intro b hb
    rcases List.mem_append.1 hb with hb | hb
    · exact Or.inl hb
    · rcases List.mem_append.1 hb with hb | hb
      · rw [obs_iff] at hb
        rcases hmv b hb with e | e
        · exact Or.inl (hE.rb b e)
        · obtain ⟨_, cur, hc⟩ := owns_cells hrow hb
          exact Or.inr ⟨e, lt_of_block hc⟩
      · have hz1 := hf.size
        have hz2 := hf2.size
        rcases List.mem_append.1 hb with hb | hb
        · rw [obs_iff] at hb
          obtain ⟨h1, cur, hc⟩ := owns_cells hP.row hb
          have := lt_of_block hc
          exact Or.inr ⟨by omega, by omega⟩
        · obtain ⟨x, hx, hb⟩ := List.mem_flatMap.1 hb
          obtain ⟨h1, cur, hc⟩ := (hP.each x hx).blk b hb
          have := lt_of_block hc
          exact Or.inr ⟨by omega, by omega⟩
  · refine (hW1.mono (by intro x hx; simp at hx)).then (hf2.mono fun x hx _ => ?_)
    rcases List.mem_cons.1 hx with e | e
    · simp [e]
    · exact List.mem_cons_of_mem _ (hE.rb x (Option.mem_toList.1 e))
set_option maxHeartbeats 800000 in
theorem addE_no {W : World} {t : Nat} (r : Rp) (hel : r.el ≠ 1) (hsm : r.el ≤ 4194304) : Calls Tryz.prog 21 #[.pointer (some ⟨t, 21, none⟩), .int .u8 1, .agg r.a] W fun e w' => (∃ v, e = .returned v) ∧ Fr [] W w' := by
  have HA : Hid (Fr [] W (W.alloc (.cells r.a 53))) := Fr.alloc [] W _
  obtain ⟨ra, rb, eo, el, ec, ho, hl, hc, rj⟩ := r
  simp only [Rp.a] at HA hel hsm ⊢
  have hq : (((el : Nat) : Int) != 1) = true := by rw [bne_iff_ne]; omega
  clear hel
  go_enter Tryz.func21, Tryz.ntmps21
  go_wp2
  refine bodyPost_ret (results_none rfl _ _ _) rfl ?_
  exact ⟨⟨_, rfl⟩, HA.out⟩
set_option maxHeartbeats 800000 in
theorem allE_any {w : World} {t : Nat} {T : Tk} {B : List Nat} {els : List ElE} (h : TkM w t T) (hE : FE w B T.ev els) (hf : els.length ≤ 17) : Calls Tryz.prog 27 #[.pointer (some ⟨t, 21, none⟩)] w fun e w' => ∃ eo ec, e = .returned (.slice eo (flaE els).length ec) ∧ w'.ownsRow w.heap.size 102 2 (.slice eo (flaE els).length ec) (flaE els).length (eysC (sortB Ey.key (flaE els))) ∧ Fr [] w w' := by
  obtain ⟨so, c, hv⟩ := hE.shape
  have c21 := h.c21
  rw [hv] at c21 hE
  have HT : Hid (Calls _ _ _ _ _) := togE_any so els.length c els w (hE.ll rfl hf) rfl
  clear h hE hv hf
  obtain ⟨N, hN⟩ : ∃ N, N = els.length := ⟨_, rfl⟩
  rw [← hN] at c21 HT
  clear hN
  go_enter Tryz.func27, Tryz.ntmps27
  go_wp2_with fail
  refine Calls.mono HT.out ?_
  rintro e w1 ⟨ro, M, rc, rfl, hM, hO, hF⟩
  have HQ : Hid (M = (flaE els).length ∧ w1.ownsRow w.heap.size 102 2 (.slice ro M rc) M (eysC (sortB Ey.key (flaE els))) ∧ Fr [] w w1) := ⟨hM, hO, hF⟩
  clear hM hO hF HT
  go_wp2
  go_ret
  obtain ⟨e, h1, h2⟩ := HQ.out
  subst e
  exact ⟨ro, rc, rfl, h1, h2⟩
set_option maxHeartbeats 800000 in
theorem allH_any {w : World} {t : Nat} {T : Tk} {B : List Nat} {els : List ElH} (h : TkM w t T) (hE : FH w B T.hv els) (hf : els.length ≤ 17) : Calls Tryz.prog 28 #[.pointer (some ⟨t, 21, none⟩)] w fun e w' => ∃ ro rc hs', e = .returned (.slice ro (flaH els).length rc) ∧ HOut w w' ro (flaH els).length rc hs' ∧ hs'.map Hd.kv = (sortB Hd.key (flaH els)).map Hd.kv ∧ Fr [] w w' := by
  obtain ⟨so, c, hv⟩ := hE.shape
  have c22 := h.c22
  rw [hv] at c22 hE
  have hll := hE.ll rfl hf
  have HT : Hid (Calls _ _ _ _ _) := togH_any so els.length c els w hll rfl
  have hbd : (flaH els).length ≤ 134217728 := by
    have h1 := hll.bound els.length
    rw [List.take_length] at h1
    omega
  have HC : Hid (∀ (w1 : World) (ro : Option Addr) (M rc : Nat), M = (flaH els).length → w1.ownsRow w.heap.size 97 2 (.slice ro M rc) M (hdsC (sortB Hd.key (flaH els))) → Fr [] w w1 → Calls Tryz.prog 69 #[.slice ro M rc] w1 fun e w' => ∃ ro rc hs', e = .returned (.slice ro M rc) ∧ HOut w w' ro M rc hs' ∧ hs'.map Hd.kv = (sortB Hd.key (flaH els)).map Hd.kv ∧ Fr [] w w') := fun w1 ro M rc h1 h2 h3 => by
    refine (copied_any ro M rc (sortB Hd.key (flaH els)) w1 (RrH.of_own h2 (by rw [sortB_length]; exact h1)) (by rw [sortB_length]; exact h1) (by omega) (fun x hx => ?_)).mono ?_
    · have hx' := sortB_mem Hd.key hx
      obtain ⟨e, he, hxe⟩ := List.mem_flatMap.1 hx'
      have := (hE.vers e he x hxe).1.ec
      exact ⟨this.rs.keep h3, this.len⟩
    · rintro e w' ⟨ro2, rc2, hs', rfl, h4, h5, h6⟩
      exact ⟨ro2, rc2, hs', rfl, h4.later h3.size, h5, h3.then h6⟩
  clear h hE hv hf hll
  obtain ⟨N, hN⟩ : ∃ N, N = els.length := ⟨_, rfl⟩
  rw [← hN] at c22 HT
  clear hN
  go_enter Tryz.func28, Tryz.ntmps28
  go_wp2_with fail
  refine Calls.mono HT.out ?_
  rintro e w1 ⟨ro, M, rc, rfl, hM, hO, hF⟩
  have HQ : Hid (Calls _ _ _ _ _) := HC.out w1 ro M rc hM hO hF
  have HM : Hid (M = (flaH els).length) := hM
  clear hM hO hF HT HC c22
  go_wp2_with fail
  refine Calls.mono HQ.out ?_
  rintro e w2 ⟨ro2, rc2, hs', rfl, h1, h2, h3⟩
  have HR : Hid (HOut w w2 ro2 M rc2 hs' ∧ hs'.map Hd.kv = (sortB Hd.key (flaH els)).map Hd.kv ∧ Fr [] w w2) := ⟨h1, h2, h3⟩
  clear h1 h2 h3 HQ
  go_wp2
  go_ret
  obtain ⟨q1, q2, q3⟩ := HR.out
  have e := HM.out
  subst e
  exact ⟨ro2, rc2, hs', rfl, q1, q2, q3⟩
end Go.Proofs.YtpdkdgmaofhlkaaGreatDoor
