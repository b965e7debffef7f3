/- What the Book does with its one list of writes: more is put behind it, and it is looked at. Conditions: the list lies in a block of its own; fewer than 2^21 writes; its number is 1. -/
import Derived.Test.YtcgfadmhjfncoaaGreatDoorBkW2
namespace Go.Proofs.YtcgfadmhjfncoaaGreatDoor
open Go.ChangeShapes Go.WideShapes Go.ChangeAt Go.RowKit Go.Lib
set_option linter.unusedVariables false
set_option linter.unusedSimpArgs false

/-- A slice of writes at b reads as n times the mark. -/
def Mks (w : World) (b n : Nat) : Prop := ∀ j, j < n → WAt w b (j * 3) mkW
theorem Mks.keep {S : List Nat} {w w' : World} {b n : Nat} (h : Mks w b n) (hf : Fr S w w') (hb : b ∉ S) : Mks w' b n := by
  intro j hj
  have hlt := World.block_lt_of_cell? w _ (h j hj).c0
  have hk : ∀ o, w'.cell? ⟨b, o, none⟩ = w.cell? ⟨b, o, none⟩ := fun o => World.cell?_of_block (hf.block b hlt hb)
  exact ⟨(hk _).trans (h j hj).c0, (hk _).trans (h j hj).c1, (hk _).trans (h j hj).c2⟩
theorem Mks.of_own {w : World} {g q n cap : Nat} (h : w.ownsRow 0 63 3 (.slice (some ⟨g, 0, none⟩) q cap) q (wtsC (List.replicate q mkW))) (hn : n ≤ q) : Mks w g n := by
  intro j hj
  have key : ∀ c, c < 3 → w.cell? ⟨g, j * 3 + c, none⟩ = (wtC mkW)[c]? := by
    intro c hc
    rw [h.cellAt (j * 3 + c) (by omega), wtsC_get _ j c (by rw [List.length_replicate]; omega) hc]
    congr 2
    simp [List.getD, show j < q by omega]
  exact ⟨key 0 (by omega), key 1 (by omega), key 2 (by omega)⟩
/-- As more is put behind it. -/
structure GW (w1 : World) (t n k : Nat) (v : Value) (w : World) : Prop where
  own : w.ownsRow 0 63 3 v (n + k) (wtsC (List.replicate (n + k) mkW))
  rds : Mks w t n
  fr : Fr [t] w1 w
  plc : v.ownBlock = some t ∨ ∃ g, v.ownBlock = some g ∧ w1.heap.size ≤ g
theorem GW.next {w1 w wm w' : World} {t n k : Nat} {v : Value} {g cap : Nat} (h : GW w1 t n k v w) (hm : Fr [] w wm) (o : Obj) (hO : w'.ownsRow 0 63 3 (.slice (some ⟨g, 0, none⟩) (n + k + 1) cap) (n + k + 1) (wtsC (List.replicate (n + k) mkW) ++ [.string ⟨#[35, 49]⟩, .string ⟨#[]⟩, .bool false])) (hW : Went (wm.alloc o) v g w') (ht : t < w1.heap.size) :
    GW w1 t n (k + 1) (.slice (some ⟨g, 0, none⟩) (n + k + 1) cap) w' := by
  have e : wtsC (List.replicate (n + k) mkW) ++ [.string ⟨#[35, 49]⟩, .string ⟨#[]⟩, .bool false] = wtsC (List.replicate (n + k + 1) mkW) := by rw [List.replicate_succ', wtsC_append]; rfl
  rw [e] at hO
  have hFa : Fr [] w (wm.alloc o) := hm.then (Fr.alloc [] _ _)
  have hs1 := h.fr.size
  have hs2 := hFa.size
  rcases hW with ⟨hv, hg⟩ | ⟨hv, hg⟩
  · have hFg : Fr [g] (wm.alloc o) w' := Fr.grown hg (by intro k hk _; cases hk; simp)
    rcases h.plc with hp | ⟨g', hp, hge⟩
    · have hgt : g = t := by rw [hv] at hp; exact Option.some.inj hp
      subst hgt
      exact ⟨hO, Mks.of_own hO (by omega), h.fr.trans (hFa.trans hFg (by simp) (fun x hx _ => hx)) (fun x hx _ => hx) (fun x hx _ => hx), Or.inl rfl⟩
    · rw [hv] at hp
      cases hp
      have hF : Fr [g] w w' := hFa.trans hFg (by simp) (fun x hx _ => hx)
      exact ⟨hO, h.rds.keep hF (by simp; omega), h.fr.trans hF (fun x hx _ => hx) (fun x hx hxl => by simp at hx; omega), Or.inr ⟨g, rfl, hge⟩⟩
  · have hFg : Fr [] (wm.alloc o) w' := Fr.grown hg (by simp)
    have hF := hFa.then hFg
    exact ⟨hO, h.rds.keep hF (by simp), h.fr.trans hF (fun x hx _ => hx) (by simp), Or.inr ⟨g, rfl, by omega⟩⟩

set_option maxHeartbeats 4000000 in
set_option maxRecDepth 100000 in
theorem growWrite_any (bk : Nat) (rb rc : Nat) (rv : Value) (hs : List HB) (t n lcap : Nat) (w : World) (h : Bk 1 (.slice (some ⟨rb, 0, none⟩) 1 rc) w bk rv hs) (hrow : w.ownsRow 0 89 3 (.slice (some ⟨rb, 0, none⟩) 1 rc) 1 [.slice (some ⟨t, 0, none⟩) n lcap, .slice none 0 0, .int .i64 1]) (hl : w.ownsRow 0 63 3 (.slice (some ⟨t, 0, none⟩) n lcap) n (wtsC (List.replicate n mkW))) (hn : n < 2^21) :
    Calls Tryz.prog 45 #[.pointer (some ⟨bk, 0, none⟩)] w fun e w' => e = .returned (.tuple #[]) ∧ ∃ g cap', w'.ownsRow 0 89 3 (.slice (some ⟨rb, 0, none⟩) 1 rc) 1 [.slice (some ⟨t, 0, none⟩) n lcap, .slice (some ⟨g, 0, none⟩) (n + 70) cap', .int .i64 1] ∧ Mks w' t n ∧ Mks w' g (n + 70) ∧ n + 70 ≤ cap' ∧ Fr [t, rb] w w' := by
  obtain ⟨i0, hi0, hz0, hz1, hz2⟩ := info_parts Tryz.infoWt3
  have hrcap : 1 ≤ rc := by
    rcases hrow.2 with ⟨hh, _⟩ | ⟨_, _, _, hh, _, _, hnc, _⟩
    · cases hh
    · cases hh; exact hnc
  have hlcap : n ≤ lcap := by
    rcases hl.2 with ⟨hh, _⟩ | ⟨_, _, _, hh, _, _, hnc, _⟩
    · cases hh
    · cases hh; exact hnc
  have c4 := h.c4
  have e0 : w.cell? ⟨rb, 0, none⟩ = some (.slice (some ⟨t, 0, none⟩) n lcap) := by rw [hrow.cellAt 0 (by omega)]; rfl
  have e1 : w.cell? ⟨rb, 1, none⟩ = some (.slice none 0 0) := by rw [hrow.cellAt 1 (by omega)]; rfl
  have e2 : w.cell? ⟨rb, 2, none⟩ = some (.int .i64 1) := by rw [hrow.cellAt 2 (by omega)]; rfl
  have htb : t ≠ bk := by
    intro e
    obtain ⟨cs, hc⟩ := own_type hl t rfl
    rw [e, h.box] at hc
    simp at hc
  have hrb : rb ≠ bk := by
    intro e
    obtain ⟨cs, hc⟩ := own_type hrow rb rfl
    rw [e, h.box] at hc
    simp at hc
  have htr : t ≠ rb := by
    intro e
    obtain ⟨cs, hc⟩ := own_type hl t rfl
    obtain ⟨cs', hc'⟩ := own_type hrow rb rfl
    rw [e, hc'] at hc
    simp at hc
  have htl := (hl.lt t rfl).2
  have hbl := lt_of_block h.box
  have hrl := (hrow.lt rb rfl).2
  have HB0 : Hid (w.heap[bk]? = _) := h.box
  have HR0 : Hid (w.ownsRow 0 89 3 (.slice (some ⟨rb, 0, none⟩) 1 rc) 1 [.slice (some ⟨t, 0, none⟩) n lcap, .slice none 0 0, .int .i64 1]) := hrow
  clear h
  go_enter Tryz.func45, Tryz.ntmps45
  go_wp2_with fail
  go_loopw [2] (fun ii wr => (ii = .int .i64 0 ∧ Hid (wr = w)) ∨ (ii = .int .i64 1 ∧ Hid (∃ g cap', wr.ownsRow 0 89 3 (.slice (some ⟨rb, 0, none⟩) 1 rc) 1 [.slice (some ⟨t, 0, none⟩) n lcap, .slice (some ⟨g, 0, none⟩) (n + 70) cap', .int .i64 1] ∧ Mks wr t n ∧ Mks wr g (n + 70) ∧ n + 70 ≤ cap' ∧ Fr [t, rb] w wr))) (fun ii _ => 1 - (intOf ii).toNat)
  case atStart => exact Or.inl ⟨rfl, rfl⟩
  case round =>
    rcases hrel with ⟨rfl, HW⟩ | ⟨rfl, HW⟩
    · have hww := HW.out.symm
      clear HW
      subst hww
      go_wp2_with fail
      obtain ⟨hv, hhv⟩ : ∃ hv, hv = w.heap.size := ⟨_, rfl⟩
      obtain ⟨w1, hw1⟩ : ∃ w1, w1 = w.alloc (Obj.cells #[.slice (some ⟨t, 0, none⟩) n lcap, .slice none 0 0, .int .i64 1] 89) := ⟨_, rfl⟩
      rw [← hw1, ← hhv]
      have hF1 : Fr [] w w1 := by rw [hw1]; exact Fr.alloc [] _ _
      have hvb : w1.heap[hv]? = some (.cells #[.slice (some ⟨t, 0, none⟩) n lcap, .slice none 0 0, .int .i64 1] 89 (0, 0)) := by rw [hw1, hhv]; exact heap_alloc_new w _
      have hvt : hv ≠ t := by omega
      have hO1 := owns_keep hl hF1 (by simp)
      have ht1 : t < w1.heap.size := by have := hF1.size; omega
      have HG0 : Hid (GW w1 t n 0 (.slice (some ⟨t, 0, none⟩) n lcap) w1) := ⟨hO1, Mks.of_own hO1 (Nat.le_refl _), Fr.refl _ _, Or.inl rfl⟩
      clear hw1 hhv c4 e0 e1 e2 hl hrow hO1
      go_loopw [4, 5] (fun vv kk wr' => ∃ (k : Nat) (vao : Option Addr) (vcap : Nat), vv = .slice vao (n + k) vcap ∧ kk = .int .i64 k ∧ k ≤ 70 ∧ Hid (GW w1 t n k (.slice vao (n + k) vcap) wr')) (fun _ kk _ => 70 - (intOf kk).toNat)
      case atStart => exact ⟨0, some ⟨t, 0, none⟩, lcap, rfl, rfl, by omega, HG0⟩
      case round =>
        clear HG0
        obtain ⟨k, vao, vcap, rfl, rfl, hk70, HG⟩ := hrel
        have hvb2 := HG.out.fr.keep hvb (by simp; exact hvt)
        by_cases hk : k < 70
        · have v2 : wr.cell? ⟨hv, 2, none⟩ = some (.int .i64 1) := by rw [cell_of_row _ _ _ _ _ _ hvb2]; rfl
          clear hvb2
          go_wp2_with fail
          refine (markWrite_1 _).mono ?_
          rintro e w2 ⟨rfl, hF2⟩
          have HOa : Hid ((w2.alloc (Obj.cells #[.string ⟨#[35, 49]⟩, .string ⟨#[]⟩, .bool false] 63)).ownsRow 0 63 3 (.slice vao (n + k) vcap) (n + k) (wtsC (List.replicate (n + k) mkW))) := owns_keep HG.out.own (hF2.then (Fr.alloc [] _ _)) (by simp)
          go_wp2_with (at_builtin; refine wpList_app _ rfl (.tmp 28) (.tmp 32) 22 rfl 63 i0 _ 3 40 Tryz.undWs hi0 hz0 hz1 hz2 rfl (by omega) _ _ _ rfl HOa.out ⟨w2.heap.size, 0, none⟩ 1 [.string ⟨#[35, 49]⟩, .string ⟨#[]⟩, .bool false] rfl rfl ?c1 ?c2 (by omega) (by simp only [maxLen]; omega) ?_)
          case c1 =>
            intro j u hj
            have hnew : (w2.alloc (Obj.cells #[.string ⟨#[35, 49]⟩, .string ⟨#[]⟩, .bool false] 63)).heap[w2.heap.size]? = some (Obj.cells #[.string ⟨#[35, 49]⟩, .string ⟨#[]⟩, .bool false] 63) := heap_alloc_new w2 _
            rw [show (⟨w2.heap.size, 0, none⟩ : Addr).add j = ⟨w2.heap.size, j, none⟩ from by simp [Addr.add]; omega, cell_of_row _ _ _ _ _ _ hnew]
            simpa using hj
          case c2 =>
            intro u hu
            simp at hu
            rcases hu with rfl | rfl | rfl <;> rfl
          intro g cap' w' hO2 hW2
          have HG2 : Hid (GW w1 t n (k + 1) (.slice (some ⟨g, 0, none⟩) (n + (k + 1)) cap') w') := GW.next HG.out hF2 _ hO2 hW2 ht1
          clear hO2 hW2 hvb hF2
          go_wp2_with fail
          go_roundw
          case rel => exact ⟨k + 1, some ⟨g, 0, none⟩, cap', by simp only [Nat.add_assoc], by simp, by omega, HG2⟩
          case measure => simp [intOf]; omega
        · obtain rfl : k = 70 := by omega
          obtain ⟨g, gc, hge, hgc⟩ := own_form HG.out.own (by omega)
          cases hge
          have hFw : Fr [t] w wr := (hF1.wide').then HG.out.fr
          have hb1 := hFw.keep HB0.out (by simp; exact fun h => htb h.symm)
          have c4' : wr.cell? ⟨bk, 4, none⟩ = some (.slice (some ⟨rb, 0, none⟩) 1 rc) := by rw [cell_of_row _ _ _ _ _ _ hb1]; rfl
          have hrow1 := owns_keep HR0.out hFw (by intro k hk; simp [Value.ownBlock] at hk; subst hk; simp; exact fun h => htr h.symm)
          have d1 : wr.cell? ⟨rb, 1, none⟩ = some (.slice none 0 0) := by rw [hrow1.cellAt 1 (by omega)]; rfl
          have df : wr.frozen? ⟨rb, 1, none⟩ = false := own_free hrow1 1
          have hput := own_put hrow1 1 (.slice (some ⟨g, 0, none⟩) (n + 70) vcap)
          have hfs : Fr [rb] wr (wr.setCell ⟨rb, 1, none⟩ (.slice (some ⟨g, 0, none⟩) (n + 70) vcap)) := Fr.set _ _ _ (by simp)
          have hgr : g ≠ rb := by
            intro e
            obtain ⟨cs, hc⟩ := own_type HG.out.own g rfl
            obtain ⟨cs', hc'⟩ := own_type hrow1 rb rfl
            rw [e, hc'] at hc
            simp at hc
          have HD2 : Hid (∃ g' cap', (wr.setCell ⟨rb, 1, none⟩ (.slice (some ⟨g, 0, none⟩) (n + 70) vcap)).ownsRow 0 89 3 (.slice (some ⟨rb, 0, none⟩) 1 rc) 1 [.slice (some ⟨t, 0, none⟩) n lcap, .slice (some ⟨g', 0, none⟩) (n + 70) cap', .int .i64 1] ∧ Mks (wr.setCell ⟨rb, 1, none⟩ (.slice (some ⟨g, 0, none⟩) (n + 70) vcap)) t n ∧ Mks (wr.setCell ⟨rb, 1, none⟩ (.slice (some ⟨g, 0, none⟩) (n + 70) vcap)) g' (n + 70) ∧ n + 70 ≤ cap' ∧ Fr [t, rb] w (wr.setCell ⟨rb, 1, none⟩ (.slice (some ⟨g, 0, none⟩) (n + 70) vcap))) :=
            ⟨g, vcap, hput, HG.out.rds.keep hfs (by simp; exact htr), (Mks.of_own HG.out.own (Nat.le_refl _)).keep hfs (by simp; exact hgr), hgc, hFw.trans hfs (by intro x hx _; simp at hx; simp [hx]) (by intro x hx _; simp at hx; simp [hx])⟩
          clear hput hfs hrow1 hb1 hFw hvb hvb2 HG
          go_wp2_with fail
          go_roundw
          case rel => exact Or.inr ⟨by simp, HD2⟩
          case measure => simp [intOf]
    · obtain ⟨g, cap', h1, h2, h3, h4, h5⟩ := HW.out
      have hb1 := h5.keep HB0.out (by simp; exact ⟨fun h => htb h.symm, fun h => hrb h.symm⟩)
      have c4' : wr.cell? ⟨bk, 4, none⟩ = some (.slice (some ⟨rb, 0, none⟩) 1 rc) := by rw [cell_of_row _ _ _ _ _ _ hb1]; rfl
      clear hb1 h1 h2 h3 h5
      go_wp2_with fail
      go_end0
      exact ⟨rfl, HW.out⟩
end Go.Proofs.YtcgfadmhjfncoaaGreatDoor
