/- A task of the program beside a Book: what it answers is new memory. Conditions as each names them. -/
import Derived.Test.YtpdkdgmaofhlkaaGreatDoorPm17
import Derived.Test.YtpdkdgmaofhlkaaGreatDoorRs17
import Derived.Test.YtpdkdgmaofhlkaaGreatDoorHdb17
namespace Go.Proofs.YtpdkdgmaofhlkaaGreatDoor
open Go.ChangeShapes Go.WideShapes Go.ChangeAt Go.RowKit Go.Lib Go.Sort
set_option linter.unusedVariables false
set_option linter.unusedSimpArgs false

theorem PM.sent {w w' : World} {B : List Nat} {t : Nat} {T : Tk} {bs : List Int} {xs : List Rx} (h : PM w B t T bs xs) {a : Nat} (hk : TkM w' t { T with ak := a }) (hf : Fr [t] w w') : PM w' B t { T with ak := a } bs xs := by
  have hB : ∀ b ∈ B, b ∉ [t] := fun b hb hm => h.tB (by rw [← List.mem_singleton.1 hm]; exact hb)
  obtain ⟨els, elh, h1, h2, h3, h4, h5, h6⟩ := h.ex
  exact ⟨hk, h.tB, fun b hb => Nat.lt_of_lt_of_le (h.lt b hb) hf.size, h.rp, h.ct, owns_keepB h.bo hf (fun k hk => hB _ (h.bk hk)), h.bl, h.bm, h.bb, els, elh, h1.keep hf hB, h2.keep hf hB, h3, h4, h5, h6⟩
theorem rrE_twin {W : World} {be : Nat} {es : List Ey} (h : W.heap[be]? = some (.cells (eysC (es ++ [spE])).toArray 102 (0, 0))) : RrE W (some ⟨be, 0, none⟩) es := fun j u hu => by
  refine ⟨be, 0, rfl, lt_of_block h, ?_⟩
  rw [cell_of_row _ _ _ _ _ _ h, Nat.zero_add, eysC_append]
  have hj := (List.getElem?_eq_some_iff.1 hu).1
  simp only [List.getElem?_toArray]
  rw [List.getElem?_append_left hj]
  exact hu
theorem rrH_twin {W : World} {bh : Nat} {hs : List Hd} {z : Hd} (h : W.heap[bh]? = some (.cells (hdsC (hs ++ [z])).toArray 97 (0, 0))) : RrH W (some ⟨bh, 0, none⟩) hs := fun j u hu => by
  refine ⟨bh, 0, rfl, lt_of_block h, ?_⟩
  rw [cell_of_row _ _ _ _ _ _ h, Nat.zero_add, hdsC_append]
  have hj := (List.getElem?_eq_some_iff.1 hu).1
  simp only [List.getElem?_toArray]
  rw [List.getElem?_append_left hj]
  exact hu
theorem VRs.twin {W : World} {k : Nat} {vs : List Vn} (h : W.heap[k]? = some (.cells (vnsC (vs ++ [spV])).toArray 134 (0, 0))) (hf : vs.length ≤ 4398046511104) (he : ∀ x ∈ vs, VEach x) : VRs W (some ⟨k, 0, none⟩) vs := by
  refine VRs.of_cells (fun _ => lt_of_block h) (fun j u hu => ?_) hf he
  rw [cell_of_row _ _ _ _ _ _ h, Nat.zero_add, vnsC_append]
  have hj := (List.getElem?_eq_some_iff.1 hu).1
  simp only [List.getElem?_toArray]
  rw [List.getElem?_append_left hj]
  exact hu
theorem twTs_kv : ∀ (hs : List Hd) (ks : List Nat), ks.length = hs.length → (twTs hs ks).map Hd.kv = hs.map Hd.kv
  | [], _, _ => by simp [twTs]
  | h :: hs, [], e => by simp at e
  | h :: hs, k :: ks, e => by
    have := twTs_kv hs ks (by simpa using e)
    unfold twTs at *
    simp only [List.zipWith_cons_cons, List.map_cons, this]
    rfl
theorem TwR.rt {wA W : World} {t : Nat} {r : Rp} {es : List Ey} {hs : List Hd} {be bh : Nat} {ks : List Nat} (h : TwR wA W r es hs be bh ks) (ht : t < wA.heap.size) (hB : RpB W r es hs) (me : r.el ≤ 4194304) (mh : r.hl ≤ 4194304) : RtB W t (twRp r be bh) ⟨r, es, hs⟩ (twTs hs ks) := by
  have n : ∀ k, wA.heap.size ≤ k → k ∉ [t] := fun k hk hm => by have := List.mem_singleton.1 hm; omega
  refine ⟨fun V hV => rrE_twin (hV.keep h.re (n _ h.ne)), hB.el, me, fun V hV => ⟨rrH_twin (hV.keep h.rh (n _ h.nh)), fun z hz => ?_⟩, ?_, mh, twTs_kv hs ks h.tw.len, rfl⟩
  · obtain ⟨i, hi⟩ := List.getElem?_of_mem hz
    obtain ⟨x, k, e1, e2, rfl⟩ := twTs_get hi
    have hx := hB.yh.each x (List.mem_of_getElem? e1)
    exact ⟨VRs.twin (hV.keep (h.tw.row i x k e1 e2) (n _ (h.tw.new k (List.mem_of_getElem? e2)))) hx.rs.few hx.rs.each, hx.len⟩
  · rw [twTs_length _ _ h.tw.len]; exact hB.hl
/-- A row of one's own where other blocks are written. -/
theorem HOut.keepK {V w w' : World} {ro : Option Addr} {N rc : Nat} {hs : List Hd} {S : List Nat} (h : HOut V w ro N rc hs) (hf : Fr S w w') (h1 : ∀ k, (Value.slice ro N rc).ownBlock = some k → k ∉ S) (h2 : ∀ x ∈ hs, ∀ k, (Value.slice x.vo x.L x.cap).ownBlock = some k → k ∉ S) : HOut V w' ro N rc hs :=
  ⟨h.len, owns_keepB h.row hf h1, fun x hx => (h.each x hx).keepS hf (fun k hk => h2 x hx k (Option.mem_toList.1 hk)), h.apart⟩
/-- What an answer is: new memory. -/
def AnsO (k : Int) (xs : List Rx) (w : World) (e : Ending) (w' : World) : Prop := ∃ co er ma ok eo en ec ct ro hn rc hs', e = .returned (.tuple #[.agg #[.int .i64 co, .int .i64 ma, .bool ok, .slice eo en ec, .int .i64 ct], .slice ro hn rc, .int .i64 er]) ∧ (∃ es : List Ey, w'.ownsRow w.heap.size 102 2 (.slice eo en ec) en (eysC es)) ∧ (∃ V, w.heap.size ≤ V.heap.size ∧ HOut V w' ro hn rc hs') ∧ hn ≤ (ansH k xs).length ∧ (∀ z ∈ hs', ∃ y ∈ ansH k xs, y.vs = z.vs) ∧ en ≤ 67108864 ∧ Fr [] w w'
theorem pans2 {w : World} {B : List Nat} {t : Nat} {T : Tk} {bs : List Int} {xs : List Rx} (h : PM w B t T bs xs) (hn : T.n < 0) (hm : Cf.may ⟨T.l, T.s, T.x, T.q⟩) (hc : okC T.k T.key T.en) (hak : T.ak ≤ 16) (hx16 : xs.length ≤ 16) (hx1 : T.k = 1 → xs.length ≤ 1) (hE : (ansE T.k xs).length ≤ 67108864) :
    Calls Tryz.prog 11 #[.pointer (some ⟨t, 0, none⟩)] w (AnsO T.k xs w) := by
  have hrp : T.rp ≤ 16 := by rw [h.rp]; exact hx16
  cases hal : T.al with
  | false =>
    refine (qAnswer_ord h.tk hn hm hc hak hrp hal).mono ?_
    rintro e w' ⟨rfl, hf⟩
    exact ⟨0, 6, 0, false, none, 0, 0, 0, none, 0, 0, [], rfl, ⟨[], ⟨rfl, .inl ⟨rfl, rfl⟩⟩⟩, ⟨w, Nat.le_refl _, ⟨rfl, ⟨rfl, .inl ⟨rfl, rfl⟩⟩, by simp, by simp⟩⟩, Nat.zero_le _, by simp, by omega, hf⟩
  | true =>
    obtain ⟨els, elh, h1, h2, h3, h4, h5, h6⟩ := h.ex
    have eE : sortB Ey.key (flaE els) = ansE T.k xs := by rw [h3]; exact fE_ans T.k xs hx1
    have eL : (flaE els).length = (ansE T.k xs).length := by rw [← eE, sortB_length]
    have eH : (sortB Hd.key (flaH elh)).map Hd.kv = (ansH T.k xs).map Hd.kv := by rw [sort_kv h4, fH_ans]
    have eM : (flaH elh).length = (ansH T.k xs).length := by
      have := congrArg List.length eH
      rw [List.length_map, List.length_map, sortB_length] at this
      exact this
    refine (qAnswer_ok2 h.tk hn hm hc hak hrp hal (flaE els).length
      (fun W v => ∃ eo ec, v = .slice eo (flaE els).length ec ∧ W.ownsRow w.heap.size 102 2 (.slice eo (flaE els).length ec) (flaE els).length (eysC (sortB Ey.key (flaE els))))
      (fun W v => ∃ ro rc hs' W0, v = .slice ro (flaH elh).length rc ∧ w.heap.size < W0.heap.size ∧ HOut W0 W ro (flaH elh).length rc hs' ∧ hs'.map Hd.kv = (sortB Hd.key (flaH elh)).map Hd.kv)
      (fun W hW => (allE_any (h.tk.keep hW (by simp)) (h1.keep hW (by simp)) (by omega)).mono ?_) (fun W hW hlt => (allH_any (h.tk.keep hW (by simp)) (h2.keep hW (by simp)) (by omega)).mono ?_) ?_ ?_).mono ?_
    · rintro e w' ⟨eo, ec, rfl, ho, hf⟩
      exact ⟨eo, ec, rfl, ⟨eo, ec, rfl, own_base ho hW.size⟩, hf⟩
    · rintro e w' ⟨ro, rc, hs', rfl, ho, hkv, hf⟩
      exact ⟨_, rfl, ⟨ro, rc, hs', W, rfl, hlt, ho, hkv⟩, hf⟩
    · rintro W W' v S ⟨eo, ec, rfl, ho⟩ hf hS
      exact ⟨eo, ec, rfl, owns_keepT ho hf (fun k hk cur hcc => by
        obtain ⟨_, cs, hcs⟩ := hS k hk
        rw [hcs] at hcc
        simp only [Option.some.injEq, Obj.cells.injEq] at hcc
        exact absurd hcc.2.1 (by decide))⟩
    · rintro W W' v ⟨ro, rc, hs', W0, rfl, hlt, ho, hkv⟩ hf
      refine ⟨ro, rc, hs', W0, rfl, hlt, ⟨ho.len, owns_keepB ho.row hf (fun k hk hmm => ?_), fun x hx => (ho.each x hx).keepS hf (fun k hk hmm => ?_), ho.apart⟩, hkv⟩
      · have := (owns_cells ho.row hk).1
        simp at hmm
        omega
      · have := ((ho.each x hx).blk k hk).1
        simp at hmm
        omega
    · rintro e w' ⟨eo, ec, v, rfl, ⟨eo', ec', he1, ho⟩, ⟨ro, rc, hs', W0, rfl, hlt, hho, hkv⟩, hf⟩
      cases he1
      refine ⟨0, 0, T.ma, _, eo, _, ec, T.ct, ro, _, rc, hs', rfl, ⟨_, ho⟩, ⟨W0, Nat.le_of_lt hlt, hho⟩, by omega, fun z hz => ?_, by omega, hf⟩
      have hm2 : z.kv ∈ (ansH T.k xs).map Hd.kv := by rw [← eH, ← hkv]; exact List.mem_map.2 ⟨z, hz, rfl⟩
      obtain ⟨y, hy, e⟩ := List.mem_map.1 hm2
      exact ⟨y, hy, (Prod.mk.inj e).2⟩
/-- A task of the program, and a Book beside it with its blocks KB. -/
structure Pk (w0 w : World) (t bk : Nat) (B KB : List Nat) (T : Tk) (bs : List Int) (xs : List Rx) (n : Nat) : Prop where
  pm : PM w B t T bs xs
  bo : ∃ rB rI rW rT hB hI hW hT, Bq.B4 w0 w bk n rB rI rW rT hB hI hW hT ∧ KB = Bq.kbs bk rB rI rW rT hB hI hW hT
  sep : ∀ b ∈ t :: B, b ∉ KB
  f1 : ∀ b ∈ t :: B, w0.heap.size ≤ b
  f2 : ∀ b ∈ KB, w0.heap.size ≤ b
  fr : Fr [] w0 w
section
variable {w0 w w' : World} {t bk n : Nat} {B KB : List Nat} {T : Tk} {bs : List Int} {xs : List Rx}
theorem Pk.lt (h : Pk w0 w t bk B KB T bs xs n) : ∀ b ∈ KB, b < w.heap.size := by
  obtain ⟨rB, rI, rW, rT, hB, hI, hW, hT, hb, rfl⟩ := h.bo
  exact hb.lt
theorem Pk.lt1 (h : Pk w0 w t bk B KB T bs xs n) : ∀ b ∈ t :: B, b < w.heap.size := fun b hb => by
  rcases List.mem_cons.1 hb with e | e
  · rw [e]; exact h.pm.tk.lt
  · exact h.pm.lt b e
theorem Pk.keep (h : Pk w0 w t bk B KB T bs xs n) (hf : Fr [] w w') : Pk w0 w' t bk B KB T bs xs n := by
  obtain ⟨rB, rI, rW, rT, hB, hI, hW, hT, hb, e⟩ := h.bo
  exact ⟨h.pm.keep hf (by simp) (by simp), ⟨rB, rI, rW, rT, hB, hI, hW, hT, hb.keep hf, e⟩, h.sep, h.f1, h.f2, h.fr.then hf⟩
theorem Pk.setP (h : Pk w0 w t bk B KB T bs xs n) {B' : List Nat} {T' : Tk} {bs' : List Int} {xs' : List Rx} (hp : PM w' B' t T' bs' xs') (hB : ∀ b ∈ B', b ∈ B ∨ w.heap.size ≤ b) {S : List Nat} (hf : Fr S w w') (hS : ∀ z ∈ S, z ∈ t :: B) : Pk w0 w' t bk B' KB T' bs' xs' n := by
  have hsz := h.fr.size
  obtain ⟨rB, rI, rW, rT, hB0, hI, hW, hT, hb, e⟩ := h.bo
  refine ⟨hp, ⟨rB, rI, rW, rT, hB0, hI, hW, hT, hb.keepN hf (fun j hj hm => h.sep j (hS j hm) (by rw [e]; exact hj)), e⟩, fun b hb => ?_, fun b hb => ?_, h.f2, h.fr.on hf (fun b hb => h.f1 b (hS b hb))⟩
  · rcases List.mem_cons.1 hb with e | e
    · rw [e]; exact h.sep t (List.mem_cons_self ..)
    · rcases hB b e with e | e
      · exact h.sep b (List.mem_cons_of_mem _ e)
      · exact fun hm => by have := h.lt b hm; omega
  · rcases List.mem_cons.1 hb with e | e
    · rw [e]; exact h.f1 t (List.mem_cons_self ..)
    · rcases hB b e with e | e
      · exact h.f1 b (List.mem_cons_of_mem _ e)
      · omega
/-- The Book was told something: H are the blocks that it now holds besides. -/
theorem Pk.told (h : Pk w0 w t bk B KB T bs xs n) {m : Nat} {rB rI rW rT : Value} {hB hI hW hT : List Bq.HB} (hb : Bq.B4 w0 w' bk m rB rI rW rT hB hI hW hT) {S : List Nat} (hf : Fr S w w') (hS : ∀ z ∈ S, z ∈ KB) {H : Nat → Prop} (hH : ∀ k, H k → k ∉ t :: B ∧ w0.heap.size ≤ k) (hN : ∀ k ∈ Bq.kbs bk rB rI rW rT hB hI hW hT, k ∈ KB ∨ H k ∨ w.heap.size ≤ k) :
    ∃ KB', Pk w0 w' t bk B KB' T bs xs m ∧ ∀ k ∈ KB', k ∈ KB ∨ H k ∨ w.heap.size ≤ k := by
  have hsz := h.fr.size
  refine ⟨_, ⟨h.pm.keep hf (fun hm => h.sep t (List.mem_cons_self ..) (hS t hm)) (fun b hb hm => h.sep b (List.mem_cons_of_mem _ hb) (hS b hm)), ⟨rB, rI, rW, rT, hB, hI, hW, hT, hb, rfl⟩, fun b hb hm => ?_, h.f1, fun b hb => ?_, h.fr.on hf (fun b hb => h.f2 b (hS b hb))⟩, hN⟩
  · rcases hN b hm with e | e | e
    · exact h.sep b hb e
    · exact (hH b e).1 hb
    · have := h.lt1 b hb; omega
  · rcases hN b hb with e | e | e
    · exact h.f2 b e
    · exact (hH b e).2
    · omega
end
end Go.Proofs.YtpdkdgmaofhlkaaGreatDoor
