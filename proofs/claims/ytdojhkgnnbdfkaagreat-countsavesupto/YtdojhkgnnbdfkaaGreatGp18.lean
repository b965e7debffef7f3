/- Texts of this claim laid together, one behind the other: contracts and plain lemmas; conditions as each names them. -/
import Derived.Test.YtdojhkgnnbdfkaaGreatGp5
import Derived.Deep.RegionLaw
import Derived.Deep.RegionWith
import Derived.Deep.RegionHeld3
import Derived.Deep.CutRange
import Derived.Test.YtdojhkgnnbdfkaaGreatGp17
import Derived.Test.YtdojhkgnnbdfkaaGreatGp6
/- An append to a row of one's own, told sharply; rows of one's own. Conditions as each lemma names them. -/
namespace Go.Proofs.YtdojhkgnnbdfkaaGreat
open Go.ChangeShapes Go.WideShapes Go.ChangeAt Go.RowKit Go.Lib

/-- Where a row of one's own lies behind an append: where it lay (its block alone may differ), or in a new block (no old one differs). -/
def Went (w : World) (v : Value) (g : Nat) (w' : World) : Prop := (v.ownBlock = some g ∧ w.grownBy w' (some g)) ∨ (w.heap.size ≤ g ∧ w.grownBy w' none)
theorem Went.fr {w w' : World} {v : Value} {g : Nat} (h : Went w v g w') : Fr v.ownBlock.toList w w' := by
  rcases h with ⟨h1, h2⟩ | ⟨_, h2⟩
  · refine Fr.grown h2 ?_
    intro k hk _
    cases hk
    simp [h1]
  · exact Fr.grown h2 (by simp)
theorem Went.moved {w w' : World} {v : Value} {g n cap : Nat} (h : Went w v g w') : Moved w.heap.size v (.slice (some ⟨g, 0, none⟩) n cap) := by
  rcases h with ⟨h1, _⟩ | ⟨h1, _⟩
  · exact Or.inl (by rw [h1]; rfl)
  · exact Or.inr ⟨g, rfl, h1⟩

section
variable {P : Program} (w : World)
theorem run_app_sharp (t ty e : TypeId) (i : TypeInfo) (z : Value) (size bytes : Nat) (ht : P.underlying t = some (.slice e)) (hi : P.info? e = some i) (hz : i.zero = some z)
    (hsize : i.size = size) (hby : i.bytes = bytes) (hzs : z.cells.size = size) (hsz : 0 < size)
    (v : Value) (n : Nat) (xs : List Value) (hown : w.ownsRow 0 e size v n xs)
    (a : Addr) (m c : Nat) (news : List Value) (hm : 0 < m) (hl : news.length = m * size) (hnews : ∀ j u, news[j]? = some u → w.cell? (a.add j) = some u) (h1 : ∀ u ∈ news, u.oneCell' = true)
    (h63 : n + m ≤ maxLen) (hbytes : (n + m) * bytes ≤ 140737488355328) :
    ∃ g cap w', (Builtin.append_ #[t, t] ty #[v, .slice (some a) m c]).run P w = .ok (.slice (some ⟨g, 0, none⟩) (n + m) cap) w' ∧ w'.ownsRow 0 e size (.slice (some ⟨g, 0, none⟩) (n + m) cap) (n + m) (xs ++ news) ∧ Went w v g w' := by
  obtain ⟨v', w', hr, h2, h3, h4⟩ := run_append_own (P := P) w 0 t ty e i z size bytes ht hi hz hsize hby hzs hsz v n xs hown a m c news hl hnews h1 h63 hbytes (Nat.zero_le _)
  obtain ⟨g, cap, rfl⟩ : ∃ g cap, v' = .slice (some ⟨g, 0, none⟩) (n + m) cap := by
    rcases h2.2 with ⟨_, hh⟩ | ⟨g, cap', _, hh, _⟩
    · omega
    · exact ⟨g, cap', hh⟩
  refine ⟨g, cap, w', hr, h2, ?_⟩
  subst hsize
  subst hby
  have hsmall : n + m ≤ 9223372036854775807 := by simp only [maxLen] at h63; omega
  rcases hown.2 with ⟨rfl, rfl⟩ | ⟨g0, cap0, cur, rfl, hbg, hg, hnc, hcm, hcs, htake⟩
  · have hr2 := run_append_nil (P := P) w t ty e i z ht hi hz a m c news hl hnews (by omega) (by omega) (by have hb := hbytes; simp only [Nat.zero_add] at hb; omega)
    rw [hr] at hr2
    injection hr2 with e1 e2
    simp only [Value.slice.injEq, Option.some.injEq, Addr.mk.injEq] at e1
    obtain ⟨⟨rfl, _⟩, _⟩ := e1
    subst e2
    exact Or.inr ⟨Nat.le_refl _, ⟨rfl, rfl, rfl, by simp, fun k hk _ => Below.heap_alloc w.drew _ _ hk⟩⟩
  · by_cases hroom : n + m ≤ cap0
    · have hfit : n * i.size + news.length ≤ cur.size := by rw [hl, hcs, ← Nat.add_mul]; exact Nat.mul_le_mul_right _ hroom
      have hr2 := run_append_room (P := P) w t ty e i ht hi g0 n cap0 cur hg a m c news hl hnews h1 hroom hfit
      rw [hr] at hr2
      cases hr2
      exact Or.inl ⟨rfl, h3⟩
    · have holds : ∀ j u, xs[j]? = some u → w.cell? ((⟨g0, 0, none⟩ : Addr).add j) = some u := hown.cells (g := g0) rfl
      have hr2 := run_append_grow (P := P) w t ty e i z ht hi hz ⟨g0, 0, none⟩ n cap0 xs hown.1 holds a m c news hl hnews (by omega) (by omega) (growslice_fits (by omega) hbytes)
      rw [hr] at hr2
      cases hr2
      exact Or.inr ⟨Nat.le_refl _, ⟨rfl, rfl, rfl, by simp, fun k hk _ => Below.heap_alloc w.drew _ _ hk⟩⟩

/-- One more element behind a row of one's own. -/
theorem wpList_app {ops : Array Oper} {rest : List Oper} {o : Oper} {a : Act} {Q : Exit → Act → World → Prop} (hgd : o.guard = none) (s x : Operand) (t : TypeId)
    (ho : o.op = .call { callee := .builtin .append, args := #[s, x], argTypes := #[t, t] })
    (e : TypeId) (i : TypeInfo) (z : Value) (size bytes : Nat) (ht : P.underlying t = some (.slice e)) (hi : P.info? e = some i) (hz : i.zero = some z)
    (hsize : i.size = size) (hby : i.bytes = bytes) (hzs : z.cells.size = size) (hsz : 0 < size)
    (v : Value) (n : Nat) (xs : List Value) (hs : a.eval s = v) (hown : w.ownsRow 0 e size v n xs)
    (ad : Addr) (c : Nat) (news : List Value) (hx : a.eval x = .slice (some ad) 1 c) (hl : news.length = size) (hnews : ∀ j u, news[j]? = some u → w.cell? (ad.add j) = some u) (h1 : ∀ u ∈ news, u.oneCell' = true)
    (hbytes : (n + 1) * bytes ≤ 140737488355328) (h63 : n + 1 ≤ maxLen)
    (h : ∀ g cap w', w'.ownsRow 0 e size (.slice (some ⟨g, 0, none⟩) (n + 1) cap) (n + 1) (xs ++ news) → Went w v g w' → wpList P ops Q rest (a.put o.dst (.slice (some ⟨g, 0, none⟩) (n + 1) cap)) w') : wpList P ops Q (o :: rest) a w := by
  refine wpList_plain hgd fun K hK => ?_
  obtain ⟨g, cap, w', hr, h2, h3⟩ := run_app_sharp (P := P) w t o.type e i z size bytes ht hi hz hsize hby hzs hsz v n xs hown ad 1 c news (by omega) (by omega) hnews h1 h63 hbytes
  unfold Oper.wp execOp
  simp only [ho, resolve, invoke, builtin, Sem.run_bind, Sem.run_pure, Result.andThen_ok, List.map_toArray, List.map_cons, List.map_nil, hs, hx, hr]
  exact hK _ _ (h g cap w' h2 h3)

/-- The same as one step of a region that draws its order. -/
theorem step_app {ops : Array Oper} {o : Oper} {a : Act} {K : Act → World → Prop} {Q : Exit → Act → World → Prop} {E : Prop} (hg : o.guard = none) (s x : Operand) (t : TypeId)
    (ho : o.op = .call { callee := .builtin .append, args := #[s, x], argTypes := #[t, t] })
    (e : TypeId) (i : TypeInfo) (z : Value) (size bytes : Nat) (ht : P.underlying t = some (.slice e)) (hi : P.info? e = some i) (hz : i.zero = some z)
    (hsize : i.size = size) (hby : i.bytes = bytes) (hzs : z.cells.size = size) (hsz : 0 < size)
    (v : Value) (n : Nat) (xs : List Value) (hs : a.eval s = v) (hown : w.ownsRow 0 e size v n xs)
    (ad : Addr) (c : Nat) (news : List Value) (hx : a.eval x = .slice (some ad) 1 c) (hl : news.length = size) (hnews : ∀ j u, news[j]? = some u → w.cell? (ad.add j) = some u) (h1 : ∀ u ∈ news, u.oneCell' = true)
    (hbytes : (n + 1) * bytes ≤ 140737488355328) (h63 : n + 1 ≤ maxLen)
    (h : ∀ g cap w', w'.ownsRow 0 e size (.slice (some ⟨g, 0, none⟩) (n + 1) cap) (n + 1) (xs ++ news) → Went w v g w' → K (a.put o.dst (.slice (some ⟨g, 0, none⟩) (n + 1) cap)) w') :
    if Region.wanted o (yielded ops a.tmps) = true then Oper.wp P o a w K Q else E := by
  have hw : Region.wanted o (yielded ops a.tmps) = true := by simp [Region.wanted, hg]
  rw [if_pos hw]
  obtain ⟨g, cap, w', hr, h2, h3⟩ := run_app_sharp (P := P) w t o.type e i z size bytes ht hi hz hsize hby hzs hsz v n xs hown ad 1 c news (by omega) (by omega) hnews h1 h63 hbytes
  unfold Oper.wp execOp
  simp only [ho, resolve, invoke, builtin, Sem.run_bind, Sem.run_pure, Result.andThen_ok, List.map_toArray, List.map_cons, List.map_nil, hs, hx, hr]
  exact h g cap w' h2 h3
end

/-- A row's cell is put. -/
theorem row_setCell {w : World} {b j : Nat} {cs : Array Value} {t : TypeId} (x : Value) (h : w.heap[b]? = some (.cells cs t (0, 0))) : (w.setCell ⟨b, j, none⟩ x).heap[b]? = some (.cells (cs.setIfInBounds j x) t (0, 0)) := by
  have hlt := lt_of_block h
  have h' : w.heap[b] = .cells cs t (0, 0) := by simpa [Array.getElem?_eq_getElem hlt] using h
  show (w.heap.modify b _)[b]? = _
  rw [Array.getElem?_eq_getElem (by simpa using hlt), Array.getElem_modify_self, h']
  rfl
theorem own_put {w : World} {e : TypeId} {g n cap size : Nat} {vs : List Value} (h : w.ownsRow 0 e size (.slice (some ⟨g, 0, none⟩) n cap) n vs) (j : Nat) (x : Value) :
    (w.setCell ⟨g, j, none⟩ x).ownsRow 0 e size (.slice (some ⟨g, 0, none⟩) n cap) n (vs.set j x) := by
  have hl := h.1
  rcases h.2 with ⟨hh, _⟩ | ⟨g', cap', cur, hh, hb, hg, hnc, hcm, hcs, ht⟩
  · cases hh
  · cases hh
    refine ⟨by rw [List.length_set]; exact hl, .inr ⟨g, cap, cur.setIfInBounds j x, rfl, hb, row_setCell x hg, hnc, hcm, by simpa using hcs, ?_⟩⟩
    rw [Array.toList_setIfInBounds, List.take_set, ht]
theorem own_free {w : World} {e : TypeId} {g n cap size : Nat} {vs : List Value} (h : w.ownsRow 0 e size (.slice (some ⟨g, 0, none⟩) n cap) n vs) (j : Nat) : w.frozen? ⟨g, j, none⟩ = false := by
  rcases h.2 with ⟨hh, _⟩ | ⟨g', cap', cur, hh, hb, hg, _⟩
  · cases hh
  · cases hh
    simp [World.frozen?, hg]
theorem own_type {w : World} {e : TypeId} {size : Nat} {v : Value} {n : Nat} {vs : List Value} (h : w.ownsRow 0 e size v n vs) : ∀ k, v.ownBlock = some k → ∃ cs, w.heap[k]? = some (.cells cs e (0, 0)) := by
  intro k hk
  rcases h.2 with ⟨rfl, _⟩ | ⟨g', cap', cur, rfl, hb, hg, _⟩
  · simp [Value.ownBlock] at hk
  · simp [Value.ownBlock] at hk
    subst hk
    exact ⟨cur, hg⟩
theorem own_form {w : World} {e : TypeId} {size : Nat} {v : Value} {n : Nat} {vs : List Value} (h : w.ownsRow 0 e size v n vs) (h0 : 0 < n) : ∃ g cap, v = .slice (some ⟨g, 0, none⟩) n cap ∧ n ≤ cap := by
  rcases h.2 with ⟨_, hh⟩ | ⟨g', cap', cur, rfl, hb, hg, hn, _⟩
  · omega
  · exact ⟨g', cap', rfl, hn⟩
theorem own_slice {w : World} {e : TypeId} {size : Nat} {v : Value} {n : Nat} {vs : List Value} (h : w.ownsRow 0 e size v n vs) : ∃ ao cap, v = .slice ao n cap := by
  rcases h.2 with ⟨rfl, rfl⟩ | ⟨g', cap', cur, rfl, _⟩
  · exact ⟨none, 0, rfl⟩
  · exact ⟨_, _, rfl⟩

end Go.Proofs.YtdojhkgnnbdfkaaGreat
/- What the document's writer does (Var, Int, Text, Fixed behind other bytes, in a row of one's own), and that a writer which is not there does nothing. Conditions: fewer than 2^40 bytes. -/
namespace Go.Proofs.YtdojhkgnnbdfkaaGreat
open Go.ChangeShapes Go.WideShapes Go.ChangeAt Go.RowKit Go.Lib

/-- A row of bytes of one's own. -/
def Wn (w : World) (v : Value) (xs : List Nat) : Prop := w.ownsRow 0 5 1 v xs.length (bts xs)
/-- It became another one, and nothing else was written. -/
structure WnTo (w : World) (v : Value) (w' : World) (v' : Value) (ys : List Nat) : Prop where
  wn : Wn w' v' ys
  fr : Fr v.ownBlock.toList w w'
  mv : Moved w.heap.size v v'
theorem Wn.refl {w : World} {v : Value} {xs : List Nat} (h : Wn w v xs) : WnTo w v w v xs := ⟨h, Fr.refl _ _, Moved.refl _ _⟩
theorem moved_mem {n : Nat} {v v' : Value} (h : Moved n v v') {x : Nat} (hx : x ∈ v'.ownBlock.toList) (hn : x < n) : x ∈ v.ownBlock.toList := by
  have hx' : v'.ownBlock = some x := by simpa using hx
  rcases h with h | ⟨k, h1, h2⟩
  · rw [← h]; exact hx
  · rw [hx'] at h1; cases h1; omega
theorem WnTo.then {w w1 w2 : World} {v v1 v2 : Value} {xs ys : List Nat} (h : WnTo w v w1 v1 xs) (k : WnTo w1 v1 w2 v2 ys) : WnTo w v w2 v2 ys :=
  ⟨k.wn, h.fr.trans k.fr (fun _ hx _ => hx) (fun _ hx hn => moved_mem h.mv hx hn), h.mv.trans k.mv h.fr.size⟩
theorem WnTo.step {w wr w1 : World} {v v' v2 : Value} {ys : List Nat} {z n : Nat} {cs : List Value} {o : Obj} (h : WnTo w v wr v' ys) (hown : w1.ownsRow 0 5 1 v2 n cs) (hn : n = (ys ++ [z]).length) (hcs : cs = bts (ys ++ [z])) (hg : (wr.alloc o).grownBy w1 v'.ownBlock) {k : Nat} (hm : Moved k v' v2) (hk : wr.heap.size ≤ k) : WnTo w v w1 v2 (ys ++ [z]) := by
  subst hn
  subst hcs
  have hFa : Fr [] wr (wr.alloc o) := Fr.alloc [] _ _
  have hFg : Fr v'.ownBlock.toList (wr.alloc o) w1 := Fr.grown hg (by intro k hk _; rw [hk]; simp)
  refine ⟨hown, h.fr.trans (hFa.trans hFg (by simp) (fun x hx _ => hx)) (fun _ hx _ => hx) (fun _ hx hn => moved_mem h.mv hx hn), h.mv.trans hm (Nat.le_trans h.fr.size hk)⟩
theorem Wn.slice {w : World} {v : Value} {xs : List Nat} (h : Wn w v xs) : ∃ ao cap, v = .slice ao xs.length cap := own_slice h
theorem Wn.keep {S : List Nat} {w w' : World} {v : Value} {xs : List Nat} (h : Wn w v xs) (hf : Fr S w w') (hn : ∀ k, v.ownBlock = some k → k ∉ S) : Wn w' v xs := owns_keep h hf hn
theorem Wn.rs {w : World} {ao : Option Addr} {n cap : Nat} {xs : List Nat} (h : Wn w (.slice ao n cap) xs) (hl : xs.length < 2^41) : Rs w ao xs := by
  refine ⟨fun h0 => ?_, hl⟩
  obtain ⟨g, c, e, _⟩ := own_form h h0
  cases e
  refine ⟨g, 0, rfl, fun j hj => ?_⟩
  rw [Nat.zero_add, World.ownsRow.cellAt h j (by omega)]
  exact bts_get xs j hj

set_option maxHeartbeats 2000000 in
set_option maxRecDepth 100000 in
theorem refVar_any (v : Value) (xs : List Nat) (N : Nat) (w : World) (h : Wn w v xs) (hN : N < 2^64) (hlen : xs.length < 2^40) :
    Calls Tryz.prog 58 #[v, .int .u64 (N : Int)] w fun e w' => ∃ ao n cap, e = .returned (.slice ao n cap) ∧ WnTo w v w' (.slice ao n cap) (xs ++ enc N) := by
  obtain ⟨i0, hi, hz0, hz1, hz2⟩ := info_parts Tryz.infoB
  have hlen0 := enc_length N
  obtain ⟨zs, hzs⟩ : ∃ zs, zs = xs ++ enc N := ⟨_, rfl⟩
  rw [← hzs]
  have hzl : zs.length < 2^40 + 10 := by rw [hzs, List.length_append]; omega
  have E0 : Hid (zs = xs ++ enc N) := hzs
  clear hzs
  go_enter Tryz.func58, Tryz.ntmps58
  go_wp2_with fail
  go_loopw [0, 1] (fun bb vv wr => ∃ (m : Nat) (v' : Value) (ys : List Nat), bb = v' ∧ vv = .int .u64 m ∧ m < 2^64 ∧ Hid (zs = ys ++ enc m) ∧ Hid (WnTo w v wr v' ys)) (fun _ vv _ => (RowKit.intOf vv).toNat)
  case atStart => exact ⟨N, v, xs, rfl, rfl, hN, E0, h.refl⟩
  case round =>
    obtain ⟨m, v', ys, rfl, rfl, hm, E, HW⟩ := hrel
    obtain ⟨ao, cap, hv⟩ := HW.out.wn.slice
    obtain ⟨L, hL⟩ : ∃ L, L = ys.length := ⟨_, rfl⟩
    have hLs : L < 2^40 + 10 := by have := congrArg List.length E.out; simp only [List.length_append] at this; omega
    rw [← hL] at hv
    subst hv
    have HL : Hid (L = ys.length) := hL
    clear hL
    have HO : Hid (wr.ownsRow 0 5 1 (.slice ao L cap) L (bts ys)) := by rw [HL.out]; have := HW.out.wn; rw [HL.out] at this; exact this
    by_cases h128 : 128 ≤ m
    · have hb : (128 + (m : Int) % 128) % 256 = ((128 + m % 128 : Nat) : Int) := by omega
      have hq : IntKind.u64.wrap ((m : Int).tdiv 128) = ((m / 128 : Nat) : Int) := by rw [wr_u64, Int.tdiv_eq_ediv_of_nonneg (by omega)]; omega
      go_wp2_with (at_builtin; refine wpList_app1 _ rfl (.tmp 7) (.tmp 12) 76 rfl 5 i0 (.int .u8 0) 1 1 Tryz.undBs hi hz0 hz1 hz2 rfl (by decide) _ L _ rfl (HO.out.alloc _) ⟨wr.heap.size, 0, none⟩ 1 [.int .u8 ((128 + m % 128 : Nat) : Int)] rfl rfl ?c1 ?c2 ?c3 ?c4 ?_)
      case c1 => intro j u hj; match j, hj with | 0, hj => simp at hj; subst hj; simp [Addr.add]
      case c2 => intro u hu; simp at hu; subst hu; rfl
      case c3 => omega
      case c4 => unfold maxLen; omega
      intro g' cap' w1 hown hgrow hmov
      have HR : Hid (WnTo w v w1 (.slice (some ⟨g', 0, none⟩) (L + 1) cap') (ys ++ [128 + m % 128])) := HW.out.step (z := 128 + m % 128) hown (by simp [HL.out]) (by rw [bts_append]; rfl) hgrow hmov (by omega)
      have HE : Hid (zs = (ys ++ [128 + m % 128]) ++ enc (m / 128)) := by have := E.out; rw [enc_high m h128 hm] at this; show _ = _; rw [this]; simp
      clear hown hgrow hmov HO
      go_wp2
      go_roundw
      case rel => exact ⟨m / 128, _, _, rfl, rfl, by omega, HE, HR⟩
      case measure => simp [RowKit.intOf]; omega
    · have hb : (m : Int) % 256 = (m : Int) := by omega
      go_wp2_with (at_builtin; refine wpList_app1 _ rfl (.tmp 16) (.tmp 19) 76 rfl 5 i0 (.int .u8 0) 1 1 Tryz.undBs hi hz0 hz1 hz2 rfl (by decide) _ L _ rfl (HO.out.alloc _) ⟨wr.heap.size, 0, none⟩ 1 [.int .u8 (m : Int)] rfl rfl ?c1 ?c2 ?c3 ?c4 ?_)
      case c1 => intro j u hj; match j, hj with | 0, hj => simp at hj; subst hj; simp [Addr.add]
      case c2 => intro u hu; simp at hu; subst hu; rfl
      case c3 => omega
      case c4 => unfold maxLen; omega
      intro g' cap' w1 hown hgrow hmov
      have HE : Hid (zs = ys ++ [m]) := by have := E.out; rw [enc_low m (by omega)] at this; exact this
      have HR : Hid (WnTo w v w1 (.slice (some ⟨g', 0, none⟩) (L + 1) cap') zs) := by rw [HE.out]; exact HW.out.step (z := m) hown (by simp [HL.out]) (by rw [bts_append]; rfl) hgrow hmov (by omega)
      clear hown hgrow hmov HO
      go_wp2
      go_ret
      exact ⟨_, _, _, rfl, HR.out⟩
end Go.Proofs.YtdojhkgnnbdfkaaGreat
/- What the document's Text and Fixed do behind other bytes. Conditions: fewer than 2^40 bytes. -/
namespace Go.Proofs.YtdojhkgnnbdfkaaGreat
open Go.ChangeShapes Go.WideShapes Go.ChangeAt Go.RowKit Go.Lib

theorem strNs_take (s : ByteArray) (i : Nat) (h : i < s.size) : (strNs s).take (i + 1) = (strNs s).take i ++ [s[i].toNat] := by
  have hl : i < (strNs s).length := by rw [strNs_length]; exact h
  rw [List.take_add_one, List.getElem?_eq_getElem hl]
  simp only [strNs, List.getElem_map, Array.getElem_toList, Option.toList_some]
  rfl

set_option maxHeartbeats 2000000 in
set_option maxRecDepth 100000 in
theorem refText_any (v : Value) (xs : List Nat) (s : ByteArray) (w : World) (h : Wn w v xs) (hlen : xs.length < 2^39) (hs : s.size < 2^39) :
    Calls Tryz.prog 59 #[v, .string s] w fun e w' => ∃ ao n cap, e = .returned (.slice ao n cap) ∧ WnTo w v w' (.slice ao n cap) (xs ++ (enc s.size ++ strNs s)) := by
  obtain ⟨i0, hi, hz0, hz1, hz2⟩ := info_parts Tryz.infoB
  have hwr : IntKind.u64.wrap (s.size : Int) = (s.size : Int) := by rw [wr_u64]; omega
  go_enter Tryz.func59, Tryz.ntmps59
  go_wp2_with fail
  refine (refVar_any v xs s.size _ h (by omega) (by omega)).mono ?_
  rintro e w1 ⟨ao1, n1, cap1, rfl, R⟩
  have hel := enc_length s.size
  obtain ⟨ys, hys⟩ : ∃ ys, ys = xs ++ enc s.size := ⟨_, rfl⟩
  have hyl : ys.length < 2^39 + 11 := by rw [hys, List.length_append]; omega
  rw [← hys] at R
  have HY : Hid (ys = xs ++ enc s.size) := hys
  have HR : Hid (WnTo w v w1 (.slice ao1 n1 cap1) (ys ++ (strNs s).take 0)) := by rw [List.take_zero, List.append_nil]; exact R
  clear hys R
  go_wp2_with fail
  go_loopw [0, 5] (fun bb ii wr => ∃ (i : Nat) (v' : Value), bb = v' ∧ ii = .int .i64 i ∧ i ≤ s.size ∧ Hid (WnTo w v wr v' (ys ++ (strNs s).take i))) (fun _ ii _ => s.size - (RowKit.intOf ii).toNat)
  case atStart => exact ⟨0, _, rfl, rfl, Nat.zero_le _, HR⟩
  case round =>
    clear HR
    obtain ⟨i, v', rfl, rfl, his, HW⟩ := hrel
    obtain ⟨ao, cap, hv⟩ := HW.out.wn.slice
    obtain ⟨L, hL⟩ : ∃ L, L = (ys ++ (strNs s).take i).length := ⟨_, rfl⟩
    have hLs : L < 2^40 + 20 := by rw [hL, List.length_append, List.length_take, strNs_length]; omega
    rw [← hL] at hv
    subst hv
    have HL : Hid (L = (ys ++ (strNs s).take i).length) := hL
    clear hL
    by_cases hi' : i < s.size
    · have HO : Hid (wr.ownsRow 0 5 1 (.slice ao L cap) L (bts (ys ++ (strNs s).take i))) := by rw [HL.out]; have := HW.out.wn; rw [HL.out] at this; exact this
      go_wp2_with (at_builtin; refine wpList_app1 _ rfl (.tmp 17) (.tmp 21) 76 rfl 5 i0 (.int .u8 0) 1 1 Tryz.undBs hi hz0 hz1 hz2 rfl (by decide) _ L _ rfl (HO.out.alloc _) ⟨wr.heap.size, 0, none⟩ 1 [.int .u8 (s[i].toNat : Int)] rfl rfl ?c1 ?c2 ?c3 ?c4 ?_)
      case c1 => intro j u hj; match j, hj with | 0, hj => simp at hj; subst hj; simp [Addr.add]
      case c2 => intro u hu; simp at hu; subst hu; rfl
      case c3 => omega
      case c4 => unfold maxLen; omega
      intro g' cap' w2 hown hgrow hmov
      have HR2 : Hid (WnTo w v w2 (.slice (some ⟨g', 0, none⟩) (L + 1) cap') (ys ++ (strNs s).take (i + 1))) := by
        rw [strNs_take s i hi', ← List.append_assoc]
        exact HW.out.step (z := s[i].toNat) hown (by rw [List.length_append, ← HL.out]; rfl) (by rw [bts_append (ys ++ (strNs s).take i)]; rfl) hgrow hmov (by omega)
      clear hown hgrow hmov HO
      go_wp2
      go_roundw
      case rel => exact ⟨i + 1, _, rfl, by simp, by omega, HR2⟩
      case measure => simp [RowKit.intOf]; omega
    · have HR2 : Hid (WnTo w v wr (.slice ao L cap) (xs ++ (enc s.size ++ strNs s))) := by
        have := HW.out
        rw [List.take_of_length_le (by rw [strNs_length]; omega), HY.out, List.append_assoc] at this
        exact this
      go_wp2
      go_ret
      exact ⟨_, _, _, rfl, HR2.out⟩

set_option maxHeartbeats 2000000 in
theorem refPower_any (n : Nat) (w : World) (hn : n < 64) :
    Calls Tryz.prog 86 #[.int .i64 (n : Int)] w fun e w' => e = .returned (.int .u64 ((2 ^ n : Nat) : Int)) ∧ w = w' := by
  obtain ⟨R, HR⟩ : ∃ R : Nat, Hid (R = 2 ^ n) := ⟨_, rfl⟩
  rw [← HR.out]
  go_enter Tryz.func86, Tryz.ntmps86
  go_wp2_with fail
  go_loop [3, 4] (fun pp ii => ∃ (p i : Nat), pp = .int .u64 (p : Int) ∧ ii = .int .i64 i ∧ i ≤ n ∧ Hid (p = 2 ^ i)) (fun _ ii => n - (RowKit.intOf ii).toNat)
  case atStart => exact ⟨1, 0, rfl, rfl, Nat.zero_le _, rfl⟩
  case round =>
    obtain ⟨p, i, rfl, rfl, hin, HP⟩ := hrel
    by_cases hi : i < n
    · have hp : p < 9223372036854775808 := by
        rw [HP.out]
        exact Nat.pow_lt_pow_right (a := 2) (n := 63) (by omega) (by omega)
      have hw : IntKind.u64.wrap (2 * (p : Int)) = ((2 * p : Nat) : Int) := by rw [wr_u64]; omega
      have HP2 : Hid (2 * p = 2 ^ (i + 1)) := by show _ = _; rw [HP.out, Nat.pow_succ]; omega
      go_wp2_with fail
      go_round
      case rel => exact ⟨2 * p, i + 1, by simp, by simp, by omega, HP2⟩
      case measure => simp [RowKit.intOf]; omega
    · obtain rfl : i = n := by omega
      have HP2 : Hid (p = R) := by show _ = _; rw [HP.out, HR.out]
      go_wp2_with fail
      go_ret
      rw [HP2.out]
      exact ⟨rfl, rfl⟩

set_option maxHeartbeats 1000000 in
theorem refFixed_arg (ao : Option Addr) (L cap : Nat) (n x : Int) (w : World) (h0 : x < 1 ∨ 8 < x) :
    Calls Tryz.prog 62 #[.slice ao L cap, .int .u64 n, .int .i64 x] w fun e w' => e = .returned (.tuple #[.slice ao L cap, .int .i64 1]) ∧ w = w' := by
  by_cases h1 : x < 1
  · go_enter Tryz.func62, Tryz.ntmps62
    go_wp2
    go_ret2
    exact ⟨rfl, rfl⟩
  · have h8 : 8 < x := by omega
    have h1' : 1 ≤ x := by omega
    go_enter Tryz.func62, Tryz.ntmps62
    go_wp2
    go_ret2
    exact ⟨rfl, rfl⟩
set_option maxHeartbeats 1000000 in
theorem refFixed_limit (ao : Option Addr) (L cap : Nat) (N X : Nat) (w : World) (h1 : 1 ≤ X) (h8 : X < 8) (hbig : 2 ^ (8 * X) ≤ N) :
    Calls Tryz.prog 62 #[.slice ao L cap, .int .u64 (N : Int), .int .i64 (X : Int)] w fun e w' => e = .returned (.tuple #[.slice ao L cap, .int .i64 3]) ∧ w = w' := by
  obtain ⟨R, hR⟩ : ∃ R, 2 ^ (8 * X) = R := ⟨_, rfl⟩
  have HR : Hid (2 ^ (8 * X) = R) := hR
  rw [hR] at hbig
  clear hR
  have hbig' : (R : Int) ≤ N := by omega
  go_enter Tryz.func62, Tryz.ntmps62
  go_wp2_with fail
  refine (refPower_any (8 * X) _ (by omega)).mono ?_
  rintro e w' ⟨rfl, rfl⟩
  rw [HR.out]
  go_wp2
  go_ret2
  exact ⟨rfl, rfl⟩

set_option maxHeartbeats 4000000 in
set_option maxRecDepth 100000 in
theorem refFixed_loop (ao0 : Option Addr) (L0 cap0 : Nat) (xs : List Nat) (N X : Nat) (w : World) (h : Wn w (.slice ao0 L0 cap0) xs) (h1 : 1 ≤ X) (h8 : X ≤ 8) (hfit : X < 8 → N < 2 ^ (8 * X)) (hN : N < 2^64) (hlen : xs.length < 2^40) :
    Calls Tryz.prog 62 #[.slice ao0 L0 cap0, .int .u64 (N : Int), .int .i64 (X : Int)] w fun e w' => ∃ ao n cap, e = .returned (.tuple #[.slice ao n cap, .int .i64 0]) ∧ WnTo w (.slice ao0 L0 cap0) w' (.slice ao n cap) (xs ++ leB X N) := by
  obtain ⟨i0, hi, hz0, hz1, hz2⟩ := info_parts Tryz.infoB
  obtain ⟨zs, hzs⟩ : ∃ zs, zs = xs ++ leB X N := ⟨_, rfl⟩
  rw [← hzs]
  have hzl : zs.length < 2^40 + 10 := by rw [hzs, List.length_append, leB_length]; omega
  have E0 : Hid (zs = xs ++ leB (X - 0) N) := hzs
  have HW0 : Hid (WnTo w (.slice ao0 L0 cap0) w (.slice ao0 L0 cap0) xs) := h.refl
  clear hzs h
  by_cases hX : X < 8
  · obtain ⟨R, hR⟩ : ∃ R, 2 ^ (8 * X) = R := ⟨_, rfl⟩
    have HR : Hid (2 ^ (8 * X) = R) := hR
    have hN' := hfit hX
    rw [hR] at hN'
    clear hR hfit
    have hN2 : (N : Int) < R := by omega
    go_enter Tryz.func62, Tryz.ntmps62
    go_wp2_with fail
    refine (refPower_any (8 * X) _ (by omega)).mono ?_
    rintro e w' ⟨rfl, rfl⟩
    rw [HR.out]
    go_wp2_with fail
    have hd0 : (decide (R ≤ N)) = false := by simp; omega
    simp only [hd0]
    clear hN2 hN' hd0
    go_loopw [0, 1, 8] (fun bb nn ii wr => ∃ (m k : Nat) (v' : Value) (ys : List Nat), bb = v' ∧ nn = .int .u64 m ∧ ii = .int .i64 k ∧ k ≤ X ∧ m < 2^64 ∧ Hid (zs = ys ++ leB (X - k) m) ∧ Hid (WnTo w (.slice ao0 L0 cap0) wr v' ys)) (fun _ _ ii _ => X - (RowKit.intOf ii).toNat)
    case atStart => exact ⟨N, 0, _, xs, rfl, rfl, rfl, Nat.zero_le _, hN, E0, HW0⟩
    case round =>
      clear HW0
      obtain ⟨m, k, v', ys, rfl, rfl, rfl, hk, hm, E, HW⟩ := hrel
      obtain ⟨ao, cap, hv⟩ := HW.out.wn.slice
      obtain ⟨L, hL⟩ : ∃ L, L = ys.length := ⟨_, rfl⟩
      have hLs : L < 2^40 + 10 := by have := congrArg List.length E.out; simp only [List.length_append] at this; omega
      rw [← hL] at hv
      subst hv
      have HL : Hid (L = ys.length) := hL
      clear hL
      by_cases hkX : k < X
      · have HO : Hid (wr.ownsRow 0 5 1 (.slice ao L cap) L (bts ys)) := by rw [HL.out]; have := HW.out.wn; rw [HL.out] at this; exact this
        have hb : ((m : Int) % 256) % 256 = ((m % 256 : Nat) : Int) := by omega
        have hq : IntKind.u64.wrap ((m : Int).tdiv 256) = ((m / 256 : Nat) : Int) := by rw [wr_u64, Int.tdiv_eq_ediv_of_nonneg (by omega)]; omega
        go_wp2_with (at_builtin; refine wpList_app1 _ rfl (.tmp 31) (.tmp 35) 76 rfl 5 i0 (.int .u8 0) 1 1 Tryz.undBs hi hz0 hz1 hz2 rfl (by decide) _ L _ rfl (HO.out.alloc _) ⟨wr.heap.size, 0, none⟩ 1 [.int .u8 ((m : Int) % 256)] rfl rfl ?c1 ?c2 ?c3 ?c4 ?_)
        case c1 => intro j u hj; match j, hj with | 0, hj => simp at hj; subst hj; simp [Addr.add]
        case c2 => intro u hu; simp at hu; subst hu; rfl
        case c3 => omega
        case c4 => unfold maxLen; omega
        intro g' cap' w1 hown hgrow hmov
        have HR2 : Hid (WnTo w (.slice ao0 L0 cap0) w1 (.slice (some ⟨g', 0, none⟩) (L + 1) cap') (ys ++ [m % 256])) := HW.out.step (z := m % 256) hown (by simp [HL.out]) (by rw [bts_append, mod8]; rfl) hgrow hmov (by omega)
        have HE : Hid (zs = (ys ++ [m % 256]) ++ leB (X - (k + 1)) (m / 256)) := by
          have := E.out
          rw [show X - k = (X - (k + 1)) + 1 by omega] at this
          show _ = _
          rw [this]; simp [leB]
        clear hown hgrow hmov HO
        go_wp2
        go_roundw
        case rel => exact ⟨m / 256, k + 1, _, _, rfl, rfl, by simp, by omega, by omega, HE, HR2⟩
        case measure => simp [RowKit.intOf]; omega
      · have hkx : k = X := by omega
        have HE : Hid (ys = zs) := by have := E.out; rw [hkx, Nat.sub_self] at this; show _ = _; simpa [leB] using this.symm
        have HR2 : Hid (WnTo w (.slice ao0 L0 cap0) wr (.slice ao L cap) zs) := by rw [← HE.out]; exact HW.out
        clear hkx
        go_wp2
        go_ret2
        exact ⟨_, _, _, rfl, HR2.out⟩
  · have h8' : X = 8 := by omega
    subst h8'
    clear hfit hX
    rw [show ((8 : Nat) : Int) = 8 from rfl]
    go_enter Tryz.func62, Tryz.ntmps62
    go_wp2_with fail
    go_loopw [0, 1, 8] (fun bb nn ii wr => ∃ (m k : Nat) (v' : Value) (ys : List Nat), bb = v' ∧ nn = .int .u64 m ∧ ii = .int .i64 k ∧ k ≤ 8 ∧ m < 2^64 ∧ Hid (zs = ys ++ leB (8 - k) m) ∧ Hid (WnTo w (.slice ao0 L0 cap0) wr v' ys)) (fun _ _ ii _ => 8 - (RowKit.intOf ii).toNat)
    case atStart => exact ⟨N, 0, _, xs, rfl, rfl, rfl, Nat.zero_le _, hN, E0, HW0⟩
    case round =>
      clear HW0
      obtain ⟨m, k, v', ys, rfl, rfl, rfl, hk, hm, E, HW⟩ := hrel
      obtain ⟨ao, cap, hv⟩ := HW.out.wn.slice
      obtain ⟨L, hL⟩ : ∃ L, L = ys.length := ⟨_, rfl⟩
      have hLs : L < 2^40 + 10 := by have := congrArg List.length E.out; simp only [List.length_append] at this; omega
      rw [← hL] at hv
      subst hv
      have HL : Hid (L = ys.length) := hL
      clear hL
      by_cases hkX : k < 8
      · have HO : Hid (wr.ownsRow 0 5 1 (.slice ao L cap) L (bts ys)) := by rw [HL.out]; have := HW.out.wn; rw [HL.out] at this; exact this
        have hb : ((m : Int) % 256) % 256 = ((m % 256 : Nat) : Int) := by omega
        have hq : IntKind.u64.wrap ((m : Int).tdiv 256) = ((m / 256 : Nat) : Int) := by rw [wr_u64, Int.tdiv_eq_ediv_of_nonneg (by omega)]; omega
        go_wp2_with (at_builtin; refine wpList_app1 _ rfl (.tmp 31) (.tmp 35) 76 rfl 5 i0 (.int .u8 0) 1 1 Tryz.undBs hi hz0 hz1 hz2 rfl (by decide) _ L _ rfl (HO.out.alloc _) ⟨wr.heap.size, 0, none⟩ 1 [.int .u8 ((m : Int) % 256)] rfl rfl ?c1 ?c2 ?c3 ?c4 ?_)
        case c1 => intro j u hj; match j, hj with | 0, hj => simp at hj; subst hj; simp [Addr.add]
        case c2 => intro u hu; simp at hu; subst hu; rfl
        case c3 => omega
        case c4 => unfold maxLen; omega
        intro g' cap' w1 hown hgrow hmov
        have HR2 : Hid (WnTo w (.slice ao0 L0 cap0) w1 (.slice (some ⟨g', 0, none⟩) (L + 1) cap') (ys ++ [m % 256])) := HW.out.step (z := m % 256) hown (by simp [HL.out]) (by rw [bts_append, mod8]; rfl) hgrow hmov (by omega)
        have HE : Hid (zs = (ys ++ [m % 256]) ++ leB (8 - (k + 1)) (m / 256)) := by
          have := E.out
          rw [show 8 - k = (8 - (k + 1)) + 1 by omega] at this
          show _ = _
          rw [this]; simp [leB]
        clear hown hgrow hmov HO
        go_wp2
        go_roundw
        case rel => exact ⟨m / 256, k + 1, _, _, rfl, rfl, by simp, by omega, by omega, HE, HR2⟩
        case measure => simp [RowKit.intOf]; omega
      · have hkx : k = 8 := by omega
        have HE : Hid (ys = zs) := by have := E.out; rw [hkx, Nat.sub_self] at this; show _ = _; simpa [leB] using this.symm
        have HR2 : Hid (WnTo w (.slice ao0 L0 cap0) wr (.slice ao L cap) zs) := by rw [← HE.out]; exact HW.out
        clear hkx
        go_wp2
        go_ret2
        exact ⟨_, _, _, rfl, HR2.out⟩
end Go.Proofs.YtdojhkgnnbdfkaaGreat
/- What the statements' helpers TwinBytes and LeftBytes answer. Conditions: fewer than 2^41 bytes. -/
namespace Go.Proofs.YtdojhkgnnbdfkaaGreat
open Go.ChangeShapes Go.WideShapes Go.ChangeAt Go.RowKit Go.Lib

theorem own_full {w : World} {g n : Nat} {xs : List Value} (h : w.ownsRow 0 5 1 (.slice (some ⟨g, 0, none⟩) n n) n xs) : w.heap[g]? = some (.cells xs.toArray 5 (0, 0)) := by
  have hl := h.1
  rcases h.2 with ⟨hh, _⟩ | ⟨g', cap', cur, hh, _, hg, _, _, hcs, ht⟩
  · cases hh
  · cases hh
    rw [hg]
    congr 2
    rw [← Array.toList_inj]
    simp only
    rw [← ht, List.take_of_length_le (by simp [hcs])]
end Go.Proofs.YtdojhkgnnbdfkaaGreat
