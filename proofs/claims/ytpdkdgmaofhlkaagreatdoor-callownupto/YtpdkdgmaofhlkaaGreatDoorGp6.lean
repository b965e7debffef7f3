/- Texts of this claim laid together, one behind the other: contracts and plain lemmas; conditions as each names them. -/
import Derived.Test.YtpdkdgmaofhlkaaGreatDoorGp5
import Derived.Deep.RegionHeld3
import Derived.RangeFuncNested
import Derived.RangeFuncBound
import Derived.RangeFuncCalls
import Derived.RangeFuncLeaves
import Derived.RangeFuncGives
import Derived.RangeFuncMany
import Derived.Sort.MapsRangeIn
import Derived.Sort.KeysCollected
import Derived.Maps.AppendAt
import Derived.Shelf.Abstract
import Derived.Shelf.RegionOpen
import Derived.OwnWalkIn
import Derived.TacticsInMore
import Derived.RegionIn
import Derived.LoopNIn
import Derived.LoopIn
import Derived.WalkKit
/- A request stored into a task, cell by cell. No conditions. -/
namespace Go.Proofs.YtpdkdgmaofhlkaaGreatDoor
open Go.ChangeShapes Go.WideShapes Go.ChangeAt Go.RowKit Go.Lib
set_option linter.unusedVariables false
set_option linter.unusedSimpArgs false

/-- A request stored into a task. -/
def set9 (w : World) (t : Nat) (r : Rv) : World := (((((((((w.setCell ⟨t, 10, none⟩ (.int .u8 r.k)).setCell ⟨t, 11, none⟩ (.int .i64 r.f)).setCell ⟨t, 12, none⟩ (.int .i64 r.n)).setCell ⟨t, 13, none⟩ (.string ⟨#[]⟩)).setCell ⟨t, 14, none⟩ (.string ⟨#[]⟩)).setCell ⟨t, 15, none⟩ (.bool false)).setCell ⟨t, 16, none⟩ (.string r.key)).setCell ⟨t, 17, none⟩ (.string r.en)).setCell ⟨t, 18, none⟩ (.slice r.bo r.bl r.bc))
theorem set9_fr (w : World) (t : Nat) (r : Rv) : Fr [t] w (set9 w t r) := ((((((((Fr.set _ _ _ (by simp)).then (Fr.set _ _ _ (by simp))).then (Fr.set _ _ _ (by simp))).then (Fr.set _ _ _ (by simp))).then (Fr.set _ _ _ (by simp))).then (Fr.set _ _ _ (by simp))).then (Fr.set _ _ _ (by simp))).then (Fr.set _ _ _ (by simp))).then (Fr.set _ _ _ (by simp))
theorem set9_tk {w : World} {t : Nat} {T : Tk} (r : Rv) (h : TkM w t T) : TkM (set9 w t r) t { T with r := r } := by
  have h9 : w.heap[t]? = some (.cells #[.int .i64 T.n, .int .i64 T.l, .int .i64 T.s, .int .i64 T.x, .int .i64 T.q, .int .u8 T.k, .string T.key, .string T.en, .bool T.bg, .int .i64 T.ma, .int .u8 T.r.k, .int .i64 T.r.f, .int .i64 T.r.n, .string ⟨#[]⟩, .string ⟨#[]⟩, .bool false, .string T.r.key, .string T.r.en, .slice T.r.bo T.r.bl T.r.bc, .int .i64 (T.ak : Int), .int .i64 (T.rp : Int), T.ev, T.hv, .int .i64 T.ct] 82 (0, 0)) := h
  have h10 : (w.setCell ⟨t, 10, none⟩ (.int .u8 r.k)).heap[t]? = some (.cells #[.int .i64 T.n, .int .i64 T.l, .int .i64 T.s, .int .i64 T.x, .int .i64 T.q, .int .u8 T.k, .string T.key, .string T.en, .bool T.bg, .int .i64 T.ma, .int .u8 r.k, .int .i64 T.r.f, .int .i64 T.r.n, .string ⟨#[]⟩, .string ⟨#[]⟩, .bool false, .string T.r.key, .string T.r.en, .slice T.r.bo T.r.bl T.r.bc, .int .i64 (T.ak : Int), .int .i64 (T.rp : Int), T.ev, T.hv, .int .i64 T.ct] 82 (0, 0)) := by rw [row_put17 _ h9]; rfl
  have h11 : ((w.setCell ⟨t, 10, none⟩ (.int .u8 r.k)).setCell ⟨t, 11, none⟩ (.int .i64 r.f)).heap[t]? = some (.cells #[.int .i64 T.n, .int .i64 T.l, .int .i64 T.s, .int .i64 T.x, .int .i64 T.q, .int .u8 T.k, .string T.key, .string T.en, .bool T.bg, .int .i64 T.ma, .int .u8 r.k, .int .i64 r.f, .int .i64 T.r.n, .string ⟨#[]⟩, .string ⟨#[]⟩, .bool false, .string T.r.key, .string T.r.en, .slice T.r.bo T.r.bl T.r.bc, .int .i64 (T.ak : Int), .int .i64 (T.rp : Int), T.ev, T.hv, .int .i64 T.ct] 82 (0, 0)) := by rw [row_put17 _ h10]; rfl
  have h12 : (((w.setCell ⟨t, 10, none⟩ (.int .u8 r.k)).setCell ⟨t, 11, none⟩ (.int .i64 r.f)).setCell ⟨t, 12, none⟩ (.int .i64 r.n)).heap[t]? = some (.cells #[.int .i64 T.n, .int .i64 T.l, .int .i64 T.s, .int .i64 T.x, .int .i64 T.q, .int .u8 T.k, .string T.key, .string T.en, .bool T.bg, .int .i64 T.ma, .int .u8 r.k, .int .i64 r.f, .int .i64 r.n, .string ⟨#[]⟩, .string ⟨#[]⟩, .bool false, .string T.r.key, .string T.r.en, .slice T.r.bo T.r.bl T.r.bc, .int .i64 (T.ak : Int), .int .i64 (T.rp : Int), T.ev, T.hv, .int .i64 T.ct] 82 (0, 0)) := by rw [row_put17 _ h11]; rfl
  have h13 : ((((w.setCell ⟨t, 10, none⟩ (.int .u8 r.k)).setCell ⟨t, 11, none⟩ (.int .i64 r.f)).setCell ⟨t, 12, none⟩ (.int .i64 r.n)).setCell ⟨t, 13, none⟩ (.string ⟨#[]⟩)).heap[t]? = some (.cells #[.int .i64 T.n, .int .i64 T.l, .int .i64 T.s, .int .i64 T.x, .int .i64 T.q, .int .u8 T.k, .string T.key, .string T.en, .bool T.bg, .int .i64 T.ma, .int .u8 r.k, .int .i64 r.f, .int .i64 r.n, .string ⟨#[]⟩, .string ⟨#[]⟩, .bool false, .string T.r.key, .string T.r.en, .slice T.r.bo T.r.bl T.r.bc, .int .i64 (T.ak : Int), .int .i64 (T.rp : Int), T.ev, T.hv, .int .i64 T.ct] 82 (0, 0)) := by rw [row_put17 _ h12]; rfl
  have h14 : (((((w.setCell ⟨t, 10, none⟩ (.int .u8 r.k)).setCell ⟨t, 11, none⟩ (.int .i64 r.f)).setCell ⟨t, 12, none⟩ (.int .i64 r.n)).setCell ⟨t, 13, none⟩ (.string ⟨#[]⟩)).setCell ⟨t, 14, none⟩ (.string ⟨#[]⟩)).heap[t]? = some (.cells #[.int .i64 T.n, .int .i64 T.l, .int .i64 T.s, .int .i64 T.x, .int .i64 T.q, .int .u8 T.k, .string T.key, .string T.en, .bool T.bg, .int .i64 T.ma, .int .u8 r.k, .int .i64 r.f, .int .i64 r.n, .string ⟨#[]⟩, .string ⟨#[]⟩, .bool false, .string T.r.key, .string T.r.en, .slice T.r.bo T.r.bl T.r.bc, .int .i64 (T.ak : Int), .int .i64 (T.rp : Int), T.ev, T.hv, .int .i64 T.ct] 82 (0, 0)) := by rw [row_put17 _ h13]; rfl
  have h15 : ((((((w.setCell ⟨t, 10, none⟩ (.int .u8 r.k)).setCell ⟨t, 11, none⟩ (.int .i64 r.f)).setCell ⟨t, 12, none⟩ (.int .i64 r.n)).setCell ⟨t, 13, none⟩ (.string ⟨#[]⟩)).setCell ⟨t, 14, none⟩ (.string ⟨#[]⟩)).setCell ⟨t, 15, none⟩ (.bool false)).heap[t]? = some (.cells #[.int .i64 T.n, .int .i64 T.l, .int .i64 T.s, .int .i64 T.x, .int .i64 T.q, .int .u8 T.k, .string T.key, .string T.en, .bool T.bg, .int .i64 T.ma, .int .u8 r.k, .int .i64 r.f, .int .i64 r.n, .string ⟨#[]⟩, .string ⟨#[]⟩, .bool false, .string T.r.key, .string T.r.en, .slice T.r.bo T.r.bl T.r.bc, .int .i64 (T.ak : Int), .int .i64 (T.rp : Int), T.ev, T.hv, .int .i64 T.ct] 82 (0, 0)) := by rw [row_put17 _ h14]; rfl
  have h16 : (((((((w.setCell ⟨t, 10, none⟩ (.int .u8 r.k)).setCell ⟨t, 11, none⟩ (.int .i64 r.f)).setCell ⟨t, 12, none⟩ (.int .i64 r.n)).setCell ⟨t, 13, none⟩ (.string ⟨#[]⟩)).setCell ⟨t, 14, none⟩ (.string ⟨#[]⟩)).setCell ⟨t, 15, none⟩ (.bool false)).setCell ⟨t, 16, none⟩ (.string r.key)).heap[t]? = some (.cells #[.int .i64 T.n, .int .i64 T.l, .int .i64 T.s, .int .i64 T.x, .int .i64 T.q, .int .u8 T.k, .string T.key, .string T.en, .bool T.bg, .int .i64 T.ma, .int .u8 r.k, .int .i64 r.f, .int .i64 r.n, .string ⟨#[]⟩, .string ⟨#[]⟩, .bool false, .string r.key, .string T.r.en, .slice T.r.bo T.r.bl T.r.bc, .int .i64 (T.ak : Int), .int .i64 (T.rp : Int), T.ev, T.hv, .int .i64 T.ct] 82 (0, 0)) := by rw [row_put17 _ h15]; rfl
  have h17 : ((((((((w.setCell ⟨t, 10, none⟩ (.int .u8 r.k)).setCell ⟨t, 11, none⟩ (.int .i64 r.f)).setCell ⟨t, 12, none⟩ (.int .i64 r.n)).setCell ⟨t, 13, none⟩ (.string ⟨#[]⟩)).setCell ⟨t, 14, none⟩ (.string ⟨#[]⟩)).setCell ⟨t, 15, none⟩ (.bool false)).setCell ⟨t, 16, none⟩ (.string r.key)).setCell ⟨t, 17, none⟩ (.string r.en)).heap[t]? = some (.cells #[.int .i64 T.n, .int .i64 T.l, .int .i64 T.s, .int .i64 T.x, .int .i64 T.q, .int .u8 T.k, .string T.key, .string T.en, .bool T.bg, .int .i64 T.ma, .int .u8 r.k, .int .i64 r.f, .int .i64 r.n, .string ⟨#[]⟩, .string ⟨#[]⟩, .bool false, .string r.key, .string r.en, .slice T.r.bo T.r.bl T.r.bc, .int .i64 (T.ak : Int), .int .i64 (T.rp : Int), T.ev, T.hv, .int .i64 T.ct] 82 (0, 0)) := by rw [row_put17 _ h16]; rfl
  have h18 : (((((((((w.setCell ⟨t, 10, none⟩ (.int .u8 r.k)).setCell ⟨t, 11, none⟩ (.int .i64 r.f)).setCell ⟨t, 12, none⟩ (.int .i64 r.n)).setCell ⟨t, 13, none⟩ (.string ⟨#[]⟩)).setCell ⟨t, 14, none⟩ (.string ⟨#[]⟩)).setCell ⟨t, 15, none⟩ (.bool false)).setCell ⟨t, 16, none⟩ (.string r.key)).setCell ⟨t, 17, none⟩ (.string r.en)).setCell ⟨t, 18, none⟩ (.slice r.bo r.bl r.bc)).heap[t]? = some (.cells #[.int .i64 T.n, .int .i64 T.l, .int .i64 T.s, .int .i64 T.x, .int .i64 T.q, .int .u8 T.k, .string T.key, .string T.en, .bool T.bg, .int .i64 T.ma, .int .u8 r.k, .int .i64 r.f, .int .i64 r.n, .string ⟨#[]⟩, .string ⟨#[]⟩, .bool false, .string r.key, .string r.en, .slice r.bo r.bl r.bc, .int .i64 (T.ak : Int), .int .i64 (T.rp : Int), T.ev, T.hv, .int .i64 T.ct] 82 (0, 0)) := by rw [row_put17 _ h17]; rfl
  exact h18
end Go.Proofs.YtpdkdgmaofhlkaaGreatDoor
/- What a task asks, of whatever kind it is; Begin. Conditions as each names them. -/
namespace Go.Proofs.YtpdkdgmaofhlkaaGreatDoor
open Go.ChangeShapes Go.WideShapes Go.ChangeAt Go.RowKit Go.Lib
set_option linter.unusedVariables false
set_option linter.unusedSimpArgs false

/-- The numbers beyond that a request names. -/
def bsOf (k : Int) (ns : List Int) : List Int := if k = 4 then ns else []
/-- The request that a call of kind k asks each owner. -/
structure RqOf (k n ma le : Int) (key en : ByteArray) (ns : List Int) (r : Rv) : Prop where
  ek : r.k = k + 1
  ef : r.f = n
  eN : r.n = if k = 3 then le else ma
  ekey : r.key = key
  een : r.en = en
  ebl : r.bl = (bsOf k ns).length
theorem owns_nil17 (w : World) (base : Nat) (e : TypeId) (z : Nat) : w.ownsRow base e z (.slice none 0 0) 0 [] := ⟨by simp, .inl ⟨rfl, rfl⟩⟩
theorem qreq_any (k n ma le : Int) (key en : ByteArray) (ao : Option Addr) (L cap : Nat) (ns : List Int) (w : World) (hk : okC k key en) (hI : IRs w ao ns) (hL : L = ns.length) (hc : L ≤ 131072) :
    Calls Tryz.prog 20 #[.int .i64 n, .agg #[.int .u8 k, .string key, .string en], .int .i64 ma, .int .i64 le, .slice ao L cap] w fun e w' => ∃ r, e = .returned (Rv.v r) ∧ RqOf k n ma le key en ns r ∧ w'.ownsRow w.heap.size 3 1 (.slice r.bo r.bl r.bc) r.bl (intsC (bsOf k ns)) ∧ Fr [] w w' := by
  rcases hk with ⟨rfl, _⟩ | ⟨rfl, _⟩ | ⟨rfl | rfl, _⟩
  · refine (qreq1 n ma le key en _ w).mono ?_
    rintro e w' ⟨rfl, hf⟩
    exact ⟨_, rfl, ⟨rfl, rfl, rfl, rfl, rfl, rfl⟩, owns_nil17 _ _ _ _, hf⟩
  · refine (qreq2 n ma le key en _ w).mono ?_
    rintro e w' ⟨rfl, hf⟩
    exact ⟨_, rfl, ⟨rfl, rfl, rfl, rfl, rfl, rfl⟩, owns_nil17 _ _ _ _, hf⟩
  · refine (qreq3 n ma le key en _ w).mono ?_
    rintro e w' ⟨rfl, hf⟩
    exact ⟨_, rfl, ⟨rfl, rfl, rfl, rfl, rfl, rfl⟩, owns_nil17 _ _ _ _, hf⟩
  · refine (qreq4 n ma le key en ao L cap ns w hI hL hc).mono ?_
    rintro e w' ⟨ro, rc, rfl, _, ho, hf⟩
    exact ⟨⟨5, n, ma, key, en, ro, L, rc⟩, rfl, ⟨rfl, rfl, rfl, rfl, rfl, hL⟩, ho, hf⟩
/-- May a task begin so? -/
def mayBg (ma le : Int) (ns : List Int) : Prop := 0 ≤ ma ∧ ma ≤ 65536 ∧ 0 ≤ le ∧ le ≤ ma ∧ Ab (ma + 1) ns
/-- What Begin answers. -/
noncomputable def bgE (bg : Bool) (ma le : Int) (ns : List Int) : Int := open Classical in if bg = true then 10 else if mayBg ma le ns then 0 else 1
theorem qbegin_no {p : Value} {w : World} (ma le : Int) (v : Value) (h : NoT p w) : Calls Tryz.prog 6 #[p, .int .i64 ma, .int .i64 le, v] w fun e w' => e = .returned (.int .i64 2) ∧ w = w' := by
  have HT : Hid (Calls _ _ _ _ _) := qthere_no h
  have hp : ∃ o, p = .pointer o := by
    rcases h with h | ⟨t, e, _⟩
    · exact ⟨_, h⟩
    · exact ⟨_, e⟩
  obtain ⟨o, rfl⟩ := hp
  clear h
  go_enter Tryz.func6, Tryz.ntmps6
  go_wp2_with fail
  refine Calls.mono HT.out ?_
  rintro e w1 ⟨rfl, rfl⟩
  go_wp2
  go_ret
  exact ⟨rfl, rfl⟩
set_option maxHeartbeats 4000000 in
set_option maxRecDepth 100000 in
theorem qbegin_bad {w : World} {t : Nat} {T : Tk} (h : TkM w t T) (hn : T.n < 0) (ma le : Int) (ao : Option Addr) (L cap : Nat) (ns : List Int) (hI : IRs w ao ns) (hL : L = ns.length) (he : bgE T.bg ma le ns ≠ 0) :
    Calls Tryz.prog 6 #[.pointer (some ⟨t, 0, none⟩), .int .i64 ma, .int .i64 le, .slice ao L cap] w fun e w' => e = .returned (.int .i64 (bgE T.bg ma le ns)) ∧ w = w' := by
  have HT : Hid (Calls _ _ _ _ _) := qthere_any h hn
  have c8 := h.c8
  clear h
  obtain ⟨n, l, s, x, q, k, key, en, bg, ma0, r, ak, rp, ev, hv, ct⟩ := T
  simp only at c8 he ⊢
  cases bg with
  | true =>
    have E : bgE true ma le ns = 10 := if_pos rfl
    rw [E]
    clear E he hI hL
    go_enter Tryz.func6, Tryz.ntmps6
    go_wp2_with fail
    refine Calls.mono HT.out ?_
    rintro e w1 ⟨rfl, rfl⟩
    go_wp2
    go_ret
    exact ⟨rfl, rfl⟩
  | false =>
    have hm : ¬ mayBg ma le ns := fun hh => he (by unfold bgE; rw [if_neg (by simp), if_pos hh])
    have E : bgE false ma le ns = 1 := by unfold bgE; rw [if_neg (by simp), if_neg hm]
    rw [E]
    clear E he
    by_cases h1 : ma < 0
    · clear hI hL hm
      go_enter Tryz.func6, Tryz.ntmps6
      go_wp2_with fail
      refine Calls.mono HT.out ?_
      rintro e w1 ⟨rfl, rfl⟩
      go_wp2
      go_ret
      exact ⟨rfl, rfl⟩
    · by_cases h2 : 65536 < ma
      · clear hI hL hm
        go_enter Tryz.func6, Tryz.ntmps6
        go_wp2_with fail
        refine Calls.mono HT.out ?_
        rintro e w1 ⟨rfl, rfl⟩
        go_wp2
        go_ret
        exact ⟨rfl, rfl⟩
      · by_cases h3 : le < 0
        · clear hI hL hm
          go_enter Tryz.func6, Tryz.ntmps6
          go_wp2_with fail
          refine Calls.mono HT.out ?_
          rintro e w1 ⟨rfl, rfl⟩
          go_wp2
          go_ret
          exact ⟨rfl, rfl⟩
        · by_cases h4 : ma < le
          · clear hI hL hm
            go_enter Tryz.func6, Tryz.ntmps6
            go_wp2_with fail
            refine Calls.mono HT.out ?_
            rintro e w1 ⟨rfl, rfl⟩
            go_wp2
            go_ret
            exact ⟨rfl, rfl⟩
          · have hab : ¬ Ab (ma + 1) ns := fun hh => hm ⟨by omega, by omega, by omega, by omega, hh⟩
            have HM : Hid (Calls _ _ _ _ _) := qmayb_any ma ao L cap ns false w ⟨by omega, by omega⟩ hI hL ⟨fun hh => (by cases hh), fun hh => absurd hh hab⟩
            clear hI hL hm hab
            go_enter Tryz.func6, Tryz.ntmps6
            go_wp2_with fail
            refine Calls.mono HT.out ?_
            rintro e w1 ⟨rfl, rfl⟩
            go_wp2_with fail
            refine Calls.mono HM.out ?_
            rintro e w1 ⟨rfl, rfl⟩
            go_wp2
            go_ret
            exact ⟨rfl, rfl⟩
theorem far17 {w : World} {t j i : Nat} {v u : Value} (h : w.cell? ⟨t, j, none⟩ = some v) (hj : j ≠ i) : (w.setCell ⟨t, i, none⟩ u).cell? ⟨t, j, none⟩ = some v := by
  rw [World.cell?_setCell_other _ _ _ _ (by intro e; cases e; exact hj rfl)]
  exact h
theorem far9 {w : World} {t j : Nat} {v : Value} (h : w.cell? ⟨t, j, none⟩ = some v) (hj : j < 10) {v0 v1 v2 v3 v4 v5 v6 v7 v8 : Value} : (((((((((w.setCell ⟨t, 10, none⟩ v0).setCell ⟨t, 11, none⟩ v1).setCell ⟨t, 12, none⟩ v2).setCell ⟨t, 13, none⟩ v3).setCell ⟨t, 14, none⟩ v4).setCell ⟨t, 15, none⟩ v5).setCell ⟨t, 16, none⟩ v6).setCell ⟨t, 17, none⟩ v7).setCell ⟨t, 18, none⟩ v8).cell? ⟨t, j, none⟩ = some v :=
  far17 (far17 (far17 (far17 (far17 (far17 (far17 (far17 (far17 h (by omega)) (by omega)) (by omega)) (by omega)) (by omega)) (by omega)) (by omega)) (by omega)) (by omega)
set_option maxHeartbeats 8000000 in
set_option maxRecDepth 100000 in
theorem qbegin_any {w : World} {t : Nat} {T : Tk} (h : TkM w t T) (hn : T.n < 0) (ma le : Int) (ao : Option Addr) (L cap : Nat) (ns : List Int) (hI : IRs w ao ns) (hL : L = ns.length) (hbg : T.bg = false) (hm : mayBg ma le ns) (hk : okC T.k T.key T.en) (hao : ∀ a, ao = some a → a.block ≠ t) :
    Calls Tryz.prog 6 #[.pointer (some ⟨t, 0, none⟩), .int .i64 ma, .int .i64 le, .slice ao L cap] w fun e w' => ∃ r, e = .returned (.int .i64 0) ∧ TkM w' t { T with bg := true, ma := ma, r := r } ∧ RqOf T.k T.n ma le T.key T.en ns r ∧ w'.ownsRow w.heap.size 3 1 (.slice r.bo r.bl r.bc) r.bl (intsC (bsOf T.k ns)) ∧ Fr [t] w w' := by
  have HT : Hid (Calls _ _ _ _ _) := qthere_any h hn
  have hab := hm.2.2.2.2
  have hms := hm
  have HM : Hid (Calls _ _ _ _ _) := qmayb_any ma ao L cap ns true w ⟨hm.1, hm.2.1⟩ hI hL ⟨fun _ => hab, fun _ => rfl⟩
  have hshort : ns.length ≤ 65536 := Ab.short (by have := hm.1; omega) hab
  obtain ⟨h1, h2, h3, h4, _⟩ := hm
  have HQ : Hid (∀ W, Fr [t] w W → Calls Tryz.prog 20 #[.int .i64 T.n, .agg #[.int .u8 T.k, .string T.key, .string T.en], .int .i64 ma, .int .i64 le, .slice ao L cap] W fun e w' => ∃ r, e = .returned (.agg #[.int .u8 r.k, .int .i64 r.f, .int .i64 r.n, .string ⟨#[]⟩, .string ⟨#[]⟩, .bool false, .string r.key, .string r.en, .slice r.bo r.bl r.bc]) ∧ RqOf T.k T.n ma le T.key T.en ns r ∧ w'.ownsRow W.heap.size 3 1 (.slice r.bo r.bl r.bc) r.bl (intsC (bsOf T.k ns)) ∧ Fr [] W w') := fun W hW => qreq_any T.k T.n ma le T.key T.en ao L cap ns W hk (hI.keepS hW (fun _ a e => by simp [hao a e])) hL (by omega)
  have HTk : Hid (TkM w t T) := h
  have c0 := h.c0
  have c5 := h.c5
  have c6 := h.c6
  have c7 := h.c7
  have c8 := h.c8
  have c9 := h.c9
  have z8 := h.fz 8
  have z9 := h.fz 9
  rw [hbg] at c8
  have hlt := h.lt
  obtain ⟨n, hnn⟩ : ∃ n, n = T.n := ⟨_, rfl⟩
  obtain ⟨k, hkk⟩ : ∃ k, k = T.k := ⟨_, rfl⟩
  obtain ⟨key, hkey⟩ : ∃ k, k = T.key := ⟨_, rfl⟩
  obtain ⟨en, hen⟩ : ∃ k, k = T.en := ⟨_, rfl⟩
  rw [← hnn] at c0 hn HQ
  rw [← hkk] at c5 HQ hk
  rw [← hkey] at c6 HQ hk
  rw [← hen] at c7 HQ hk
  have HE : Hid (n = T.n ∧ k = T.k ∧ key = T.key ∧ en = T.en) := ⟨hnn, hkk, hkey, hen⟩
  clear h hnn hkk hkey hen hI hL hms hab hk hao hshort
  -- the world behind region 7
  have hT1 : TkM ((w.setCell ⟨t, 8, none⟩ (.bool true)).setCell ⟨t, 9, none⟩ (.int .i64 ma)) t { T with bg := true, ma := ma } := row_put17 _ (row_put17 _ HTk.out)
  have hF1 : Fr [t] w ((w.setCell ⟨t, 8, none⟩ (.bool true)).setCell ⟨t, 9, none⟩ (.int .i64 ma)) := (Fr.set _ _ _ (by simp)).then (Fr.set _ _ _ (by simp))
  go_enter Tryz.func6, Tryz.ntmps6
  go_wp2_with fail
  refine Calls.mono HT.out ?_
  rintro e w1 ⟨rfl, rfl⟩
  go_wp2_with fail
  refine Calls.mono HM.out ?_
  rintro e w1 ⟨rfl, rfl⟩
  clear HT HM
  go_upto_region 8 with fail
  generalize ((w.setCell ⟨t, 8, none⟩ (.bool true)).setCell ⟨t, 9, none⟩ (.int .i64 ma)) = w1 at hT1 hF1 ⊢
  clear c0 c5 c6 c7 c8 c9 z8 z9
  have HT1 : Hid (TkM w1 t { T with bg := true, ma := ma }) := hT1
  have HF1 : Hid (Fr [t] w w1) := hF1
  obtain ⟨hn_, hk_, hkey_, hen_⟩ := HE.out
  have HS : Hid (∀ W, Fr [] w1 W → W.cell? ⟨t, 0, none⟩ = some (.int .i64 n) ∧ W.cell? ⟨t, 5, none⟩ = some (.int .u8 k) ∧ W.cell? ⟨t, 6, none⟩ = some (.string key) ∧ W.cell? ⟨t, 7, none⟩ = some (.string en)) := fun W hW => by
    have hk := hT1.keep hW (by simp)
    exact ⟨by rw [hn_]; exact hk.c0, by rw [hk_]; exact hk.c5, by rw [hkey_]; exact hk.c6, by rw [hen_]; exact hk.c7⟩
  clear hn_ hk_ hkey_ hen_
  obtain ⟨c0, c5, c6, c7⟩ := HS.out w1 (Fr.refl _ _)
  clear hT1 hF1
  go_region_held3 (fun w => w.cell? ⟨t, 0, none⟩ = some (.int .i64 n) ∧ w.cell? ⟨t, 5, none⟩ = some (.int .u8 k) ∧ w.cell? ⟨t, 6, none⟩ = some (.string key) ∧ w.cell? ⟨t, 7, none⟩ = some (.string en)) (first | go_keep | exact ⟨far9 d0 (by omega), far9 d5 (by omega), far9 d6 (by omega), far9 d7 (by omega)⟩)
    (first
      | (with_reducible refine Calls.mono (HQ.out _ (HF1.out.then (Fr.drew _ _))) ?_; rintro e w3 ⟨⟨rk, rf, rn, rkey, ren, ro, rl, rc⟩, rfl, hR, hO, hf3⟩; have hf3' := (Fr.drew [] w1).then hf3; obtain ⟨d0, d5, d6, d7⟩ := HS.out _ hf3'; have hk3 := HT1.out.keep hf3' (by simp); have e10 := hk3.c10; have e11 := hk3.c11; have e12 := hk3.c12; have e13 := hk3.c13; have e14 := hk3.c14; have e15 := hk3.c15; have e16 := hk3.c16; have e17 := hk3.c17; have e18 := hk3.c18; have z10 := hk3.fz 10; have z11 := hk3.fz 11; have z12 := hk3.fz 12; have z13 := hk3.fz 13; have z14 := hk3.fz 14; have z15 := hk3.fz 15; have z16 := hk3.fz 16; have z17 := hk3.fz 17; have z18 := hk3.fz 18))
  have hT4 := set9_tk ⟨rk, rf, rn, rkey, ren, ro, rl, rc⟩ hk3
  have hF4 := set9_fr w3 t ⟨rk, rf, rn, rkey, ren, ro, rl, rc⟩
  have HO4 : Hid (Fr [t] w (set9 w3 t ⟨rk, rf, rn, rkey, ren, ro, rl, rc⟩) ∧ World.ownsRow (set9 w3 t ⟨rk, rf, rn, rkey, ren, ro, rl, rc⟩) w.heap.size 3 1 (.slice ro rl rc) rl (intsC (bsOf T.k ns)) ∧ RqOf T.k T.n ma le T.key T.en ns ⟨rk, rf, rn, rkey, ren, ro, rl, rc⟩ ∧ TkM (set9 w3 t ⟨rk, rf, rn, rkey, ren, ro, rl, rc⟩) t { T with bg := true, ma := ma, r := ⟨rk, rf, rn, rkey, ren, ro, rl, rc⟩ }) := by
    obtain ⟨a1, a2, a3, a4⟩ := HE.out
    rw [a1, a2, a3, a4] at hR
    rw [a2] at hO
    have hsz := HF1.out.size
    refine ⟨(HF1.out.trans hf3' (fun x hx _ => hx) (fun x hx _ => by simp at hx)).trans hF4 (fun x hx _ => hx) (fun x hx _ => hx), owns_less17 (owns_keep17 hO hF4 (fun b hb hm => ?_)) hsz, hR, hT4⟩
    have h1 : w1.heap.size ≤ b := (owns_cells17 hO hb).1
    simp at hm
    omega
  clear hT4 hF4 e10 e11 e12 e13 e14 e15 e16 e17 e18 z10 z11 z12 z13 z14 z15 z16 z17 z18 hk3 hf3 hf3' hO hR d0 d5 d6 d7 HS HT1 HQ
  unfold set9 at HO4
  go_wp2
  go_ret
  exact ⟨rfl, ⟨rk, rf, rn, rkey, ren, ro, rl, rc⟩, HO4.out.2.2.2, HO4.out.2.2.1, HO4.out.2.1, HO4.out.1⟩
end Go.Proofs.YtpdkdgmaofhlkaaGreatDoor
/- A loop over a function: the laws of its record, its rounds and its end. Conditions as each names them. -/
namespace Go.Proofs.YtpdkdgmaofhlkaaGreatDoor
open Go.ChangeShapes Go.WideShapes Go.ChangeAt Go.RowKit Go.Lib
set_option linter.unusedVariables false
attribute [local go_sem] Oper.semAt_some

theorem Fr.putObj (w : World) (l : Nat) (o : Obj) : Fr [l] w (w.putObj l o) := ⟨rfl, rfl, rfl, by simp, fun k _ hn => World.putObj_heap_other (by simpa using hn)⟩
/-- The loop's record. -/
def recOf (fn : FuncId) (tmps : Array Value) (ps : Array Tmp) (assign body : Code) (D : Nat) (st : LoopState) (pe : Option Code) : Loop := { state := st, pending := pe, fn, tmps, params := ps, assign, body, defers := D }
/-- The statement 'for x := range g': the record's blocks are laid, the iterator is called. -/
theorem range_of {F : Fence} {n : Nat} {P : Program} {g : Operand} {ps : Array Tmp} {assign body : Code} {Q : Exit → Act → World → Prop} {a : Act} {w : World} (hro : F.round = none) (hF : ∀ f, F.fn f) (hdep : F.depth = none) {gf : Nat} {lb : Array Value} (hg : a.eval g = .func (.func gf) #[] lb) (eg : ∀ args w, (callFunc gf args).run P w = .ok (.enter gf args) w)
    (h : ∀ (fn : FuncId) (RC : LoopState → Option Code → Loop), Hid (RC = recOf fn a.tmps ps assign body w.heap.size) → CallsIn F (n - 1) P gf (#[Value.func (.yield (w.heap.size + 1)) #[] #[]] ++ lb) ((w.alloc (.deferred (some []))).alloc (.loop (RC .ready none)))
      (rangePost F n P (w.heap.size + 1) Q { a with defers := [({ target := .collected w.heap.size, args := #[] } : Deferred)] ++ a.defers })) :
    (Code.rangeFunc g ps assign body).wpIn F n P Q a w := by
  refine wpIn_rangeFunc ?_
  intro fn hfn
  rw [hro]
  obtain ⟨RC, hRC⟩ : ∃ RC, RC = recOf fn a.tmps ps assign body w.heap.size := ⟨_, rfl⟩
  have hc := h fn RC hRC
  obtain ⟨W1, hW1⟩ : ∃ W1, (w.alloc (.deferred (some []))).alloc (.loop (RC .ready none)) = W1 := ⟨_, rfl⟩
  rw [hW1] at hc
  refine ⟨w.heap.size + 1, [{ target := .collected w.heap.size, args := #[] }], W1, { target := .fn (.func gf) lb, args := #[.func (.yield (w.heap.size + 1)) #[] #[]] }, W1, gf,
    #[.func (.yield (w.heap.size + 1)) #[] #[]] ++ lb, W1, ?_, ?_, ?_, ?_, ?_, ?_⟩
  · rw [← hW1, hRC]
    exact run_enterLoop_outer _ _ _ _ _
  · simp only [resolve, hg]
    simp [go_sem]
  · intro f' hf'
    exact hF f'
  · simp [invoke, go_sem, eg]
  · intro hd
    rw [hdep] at hd
    cases hd
  · exact hc
/-- One round. -/
theorem round_of {m l : Nat} {P : Program} {fn : FuncId} {tmps : Array Value} {ps : Array Tmp} {assign body : Code} {D : Nat} {args : Array Value} {RC : LoopState → Option Code → Loop} (hRC : Hid (RC = recOf fn tmps ps assign body D)) (hs : args.size = ps.size) {W : World} (hl : W.heap[l]? = some (.loop (RC .ready none))) {R : Ending → World → Prop}
    (h : assign.wpIn (Fence.wide.inRound l) m P (Exit.then (fun a₁ w₁ => ∃ w₂, (Instr.beginRound l).run P w₁ = .ok () w₂ ∧ body.wpIn (Fence.wide.inRound l) m P (roundPost P l R) a₁ w₂) (fun _ _ _ => False))
      { tmps := (ps.zip args).foldl (fun t (p, v) => t.setIfInBounds p v) tmps, defers := [] } W) : YieldAt Fence.wide m P l args W R :=
  ⟨fn, _, assign, body, by have := hRC.out; subst this; exact run_yield (r := recOf fn tmps ps assign body D .ready none) hl hs, roundIn_of_wpIn trivial h⟩
theorem fold_one (t : Array Value) (p : Tmp) (v : Value) : (#[p].zip #[v]).foldl (fun t (x : Tmp × Value) => match x with | (p, v) => t.setIfInBounds p v) t = t.setIfInBounds p v := by simp
/-- One round of a loop with one variable. -/
theorem round_of1 {m l : Nat} {P : Program} {fn : FuncId} {tmps : Array Value} {p : Tmp} {v : Value} {assign body : Code} {D : Nat} {RC : LoopState → Option Code → Loop} (hRC : Hid (RC = recOf fn tmps #[p] assign body D)) {W : World} (hl : W.heap[l]? = some (.loop (RC .ready none))) {R : Ending → World → Prop}
    (h : assign.wpIn (Fence.wide.inRound l) m P (Exit.then (fun a₁ w₁ => ∃ w₂, (Instr.beginRound l).run P w₁ = .ok () w₂ ∧ body.wpIn (Fence.wide.inRound l) m P (roundPost P l R) a₁ w₂) (fun _ _ _ => False))
      { tmps := tmps.setIfInBounds p v, defers := [] } W) : YieldAt Fence.wide m P l #[v] W R :=
  round_of hRC rfl hl (by rw [fold_one]; exact h)
theorem begin_of {l : Nat} {P : Program} {fn : FuncId} {tmps : Array Value} {ps : Array Tmp} {assign body : Code} {D : Nat} {RC : LoopState → Option Code → Loop} (hRC : Hid (RC = recOf fn tmps ps assign body D)) {W : World} (hl : W.heap[l]? = some (.loop (RC .ready none))) :
    (Instr.beginRound l).run P W = .ok () (W.putObj l (.loop (RC .busy none))) := by
  have := hRC.out
  subst this
  exact run_beginRound hl rfl
theorem end_of {l : Nat} {P : Program} {fn : FuncId} {tmps : Array Value} {ps : Array Tmp} {assign body : Code} {D : Nat} {RC : LoopState → Option Code → Loop} (hRC : Hid (RC = recOf fn tmps ps assign body D)) {W : World} (hl : W.heap[l]? = some (.loop (RC .busy none))) (jump : Option Code) :
    (Instr.endRound l jump).run P W = .ok (.bool jump.isNone) (W.putObj l (.loop (RC (if jump.isNone then .ready else .done) jump))) := by
  have := hRC.out
  subst this
  exact run_endRound jump hl
theorem loop_end_of {l : Nat} {P : Program} {fn : FuncId} {tmps : Array Value} {ps : Array Tmp} {assign body : Code} {D : Nat} {RC : LoopState → Option Code → Loop} (hRC : Hid (RC = recOf fn tmps ps assign body D)) {W : World} {st : LoopState} {pe : Option Code} (hl : W.heap[l]? = some (.loop (RC st pe))) (hb : st ≠ .busy) :
    (Instr.endLoop l).run P W = .ok pe (W.putObj l (.loop (RC .exhausted pe))) := by
  have := hRC.out
  subst this
  exact run_endLoop hl hb
end Go.Proofs.YtpdkdgmaofhlkaaGreatDoor
