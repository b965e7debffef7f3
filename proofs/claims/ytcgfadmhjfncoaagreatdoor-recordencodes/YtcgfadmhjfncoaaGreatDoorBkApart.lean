/- What the Book's Apart answers over one list of writes and lists of bytes of which no two share a block: true; it writes those lists and its own rows alone. Conditions: fewer than 2^20 lists, fewer than 2^21 writes. -/
import Derived.Test.YtcgfadmhjfncoaaGreatDoorBkW4
namespace Go.Proofs.YtcgfadmhjfncoaaGreatDoor
open Go.ChangeShapes Go.WideShapes Go.ChangeAt Go.RowKit Go.Lib
set_option linter.unusedVariables false

/-- Blocks of bytes are none of those of another type. -/
theorem lbs_not {w : World} {hs : List HB} {k : Nat} {cs : Array Value} {ty : TypeId} (h0 : ∀ (j : Nat) (h : HB), hs[j]? = some h → ∀ k, h.l.ownBlock = some k → ∃ cs, w.heap[k]? = some (.cells cs 5 (0, 0))) (hk : w.heap[k]? = some (.cells cs ty (0, 0))) (hne : ty ≠ 5) : k ∉ lbs hs := by
  intro hm
  obtain ⟨h, hh, hb⟩ := mem_lbs.1 hm
  obtain ⟨j, hj⟩ := List.getElem?_of_mem hh
  obtain ⟨cs', hc'⟩ := h0 j h hj k hb
  rw [hk] at hc'
  simp at hc'
  exact hne hc'.2

set_option maxHeartbeats 8000000 in
set_option maxRecDepth 100000 in
theorem apart_any (bk : Nat) (rv : Value) (hs : List HB) (rb rc t n lcap : Nat) (vs : List Value) (w : World) (h : Bk 1 (.slice (some ⟨rb, 0, none⟩) 1 rc) w bk rv hs) (h0 : ∀ (j : Nat) (h : HB), hs[j]? = some h → P0 w h) (ha : Alone hs) (hn : Num 1 hs) (hfre : Fresh hs)
    (hrow : w.ownsRow 0 89 3 (.slice (some ⟨rb, 0, none⟩) 1 rc) 1 [.slice (some ⟨t, 0, none⟩) n lcap, .slice none 0 0, .int .i64 1]) (hl : w.ownsRow 0 63 3 (.slice (some ⟨t, 0, none⟩) n lcap) n vs) (hnn : n < 2^21) :
    Calls Tryz.prog 16 #[.pointer (some ⟨bk, 0, none⟩)] w fun e w' => e = .returned (.bool true) ∧ Fr (t :: rb :: (rv.ownBlock.toList ++ lbs hs)) w w' := by
  obtain ⟨ct, htb⟩ := own_type hl t rfl
  obtain ⟨cr, hrb⟩ := own_type hrow rb rfl
  have HT0 : Hid (∀ (j : Nat) (h : HB), hs[j]? = some h → ∀ k, h.l.ownBlock = some k → ∃ cs, w.heap[k]? = some (.cells cs 5 (0, 0))) := fun j b hb => (h0 j b hb).type
  have ht1 : t ∉ lbs hs := lbs_not HT0.out htb (by decide)
  have hr1 : rb ∉ lbs hs := lbs_not HT0.out hrb (by decide)
  have htk : t ≠ bk := by intro e; rw [e, h.box] at htb; simp at htb
  have hrk : rb ≠ bk := by intro e; rw [e, h.box] at hrb; simp at hrb
  have htr : t ≠ rb := by intro e; rw [e, hrb] at htb; simp at htb
  have htv : rv.ownBlock ≠ some t := by intro e; obtain ⟨cs, hc⟩ := own_type h.row t e; rw [htb] at hc; simp at hc
  have hrv : rv.ownBlock ≠ some rb := by intro e; obtain ⟨cs, hc⟩ := own_type h.row rb e; rw [hrb] at hc; simp at hc
  go_enter Tryz.func16, Tryz.ntmps16
  go_wp2_with fail
  refine (fillByte_any bk rv hs w h h0 ha hn hfre).mono ?_
  rintro e w1 ⟨rfl, HF⟩
  have HB1 : Hid (Bk 1 (.slice (some ⟨rb, 0, none⟩) 1 rc) w1 bk rv hs) := HF.out.bk
  have hrow1 := owns_keep hrow HF.out.fr (by intro k hk; simp [Value.ownBlock] at hk; subst hk; exact hr1)
  have hl1 := owns_keep hl HF.out.fr (by intro k hk; simp [Value.ownBlock] at hk; subst hk; exact ht1)
  clear h h0 hrow hl
  go_wp2_with fail
  refine (fillInt_none bk rv hs w1 HB1.out).mono ?_
  rintro e _ ⟨rfl, rfl⟩
  go_wp2_with fail
  refine (fillText_none bk rv hs w1 HB1.out).mono ?_
  rintro e _ ⟨rfl, rfl⟩
  go_wp2_with fail
  refine (fillWrite_any bk rb rc rv hs t n lcap vs w1 HB1.out hrow1 hl1 hnn).mono ?_
  rintro e w2 ⟨rfl, hl2, hF2⟩
  have HB2 : Hid (Bk 1 (.slice (some ⟨rb, 0, none⟩) 1 rc) w2 bk rv hs) := HB1.out.keep hF2 (by simp; exact fun h => htk h.symm) (by intro k hk; simp; intro e; exact htv (e ▸ hk))
  have hrow2 := owns_keep hrow1 hF2 (by intro k hk; simp [Value.ownBlock] at hk; subst hk; simp; exact fun h => htr h.symm)
  have HP1 : Hid (∀ (j : Nat) (h : HB), hs[j]? = some h → P1 w2 h) := by
    intro j b hb
    have hp := HF.out.done j b hb (List.getElem?_eq_some_iff.1 hb).1
    refine hp.keep hF2 ?_
    intro k hk
    simp
    intro e
    subst e
    exact ht1 (mem_lbs.2 ⟨b, List.mem_of_getElem? hb, hk⟩)
  have HG2 : Hid (Fr (t :: rb :: (rv.ownBlock.toList ++ lbs hs)) w w2) := HF.out.fr.trans hF2 (fun x hx _ => by simp [hx]) (fun x hx _ => by simp at hx; simp [hx])
  clear hrow1 hl1 hF2
  go_wp2_with fail
  refine (fillEntry_none bk rv hs w2 HB2.out).mono ?_
  rintro e _ ⟨rfl, rfl⟩
  go_wp2_with fail
  refine (fillVersion_none bk rv hs w2 HB2.out).mono ?_
  rintro e _ ⟨rfl, rfl⟩
  go_wp2_with fail
  refine (fillTxn_none bk rv hs w2 HB2.out).mono ?_
  rintro e _ ⟨rfl, rfl⟩
  go_wp2_with fail
  refine (fillHeld_none bk rv hs w2 HB2.out).mono ?_
  rintro e _ ⟨rfl, rfl⟩
  go_wp2_with fail
  refine (fillHeldList_none bk rv hs w2 HB2.out).mono ?_
  rintro e _ ⟨rfl, rfl⟩
  go_wp2_with fail
  refine (fillEvent_none bk rv hs w2 HB2.out).mono ?_
  rintro e _ ⟨rfl, rfl⟩
  go_wp2_with fail
  refine (fillAnswer_none bk rv hs w2 HB2.out).mono ?_
  rintro e _ ⟨rfl, rfl⟩
  go_wp2_with fail
  refine (growByte_any bk rv hs w2 HB2.out HP1.out ha hn hfre).mono ?_
  rintro e w3 ⟨rfl, hs3, HG⟩
  have HB3 : Hid (Bk 1 (.slice (some ⟨rb, 0, none⟩) 1 rc) w3 bk rv hs3) := HG.out.bk
  have hnot : ∀ k, k = t ∨ k = rb → k ∉ rv.ownBlock.toList ++ lbs hs := by
    intro k hk hm
    rcases List.mem_append.1 hm with hm | hm
    · have hm' : rv.ownBlock = some k := by simpa using hm
      rcases hk with rfl | rfl
      · exact htv hm'
      · exact hrv hm'
    · rcases hk with rfl | rfl
      · exact ht1 hm
      · exact hr1 hm
  have hrow3 := owns_keep hrow2 HG.out.fr (by intro k hk; simp [Value.ownBlock] at hk; subst hk; exact hnot _ (Or.inr rfl))
  have hl3 := owns_keep hl2 HG.out.fr (by intro k hk; simp [Value.ownBlock] at hk; subst hk; exact hnot _ (Or.inl rfl))
  have HG3 : Hid (Fr (t :: rb :: (rv.ownBlock.toList ++ lbs hs)) w w3) := HG2.out.trans HG.out.fr (fun x hx _ => hx) (fun x hx _ => List.mem_cons_of_mem _ (List.mem_cons_of_mem _ hx))
  clear hrow2 hl2
  go_wp2_with fail
  refine (growInt_none bk rv hs3 w3 HB3.out).mono ?_
  rintro e _ ⟨rfl, rfl⟩
  go_wp2_with fail
  refine (growText_none bk rv hs3 w3 HB3.out).mono ?_
  rintro e _ ⟨rfl, rfl⟩
  go_wp2_with fail
  refine (growWrite_any bk rb rc rv hs3 t n lcap w3 HB3.out hrow3 hl3 hnn).mono ?_
  rintro e w4 ⟨rfl, g, gcap, hrow4, hm1, hm2, hgc, hF4⟩
  have HB4 : Hid (Bk 1 (.slice (some ⟨rb, 0, none⟩) 1 rc) w4 bk rv hs3) := HB3.out.keep hF4 (by simp; exact ⟨fun h => htk h.symm, fun h => hrk h.symm⟩) (by intro k hk; simp; exact ⟨fun e => htv (e ▸ hk), fun e => hrv (e ▸ hk)⟩)
  have HP2 : Hid (∀ (j : Nat) (h : HB), hs3[j]? = some h → P2 w4 h) := by
    intro j b hb
    have hp := HG.out.done j b hb (by rw [← HG.out.len]; exact (List.getElem?_eq_some_iff.1 hb).1)
    have hb3t : ∃ cs, w3.heap[t]? = some (.cells cs 63 (0, 0)) := own_type hl3 t rfl
    have hb3r : ∃ cs, w3.heap[rb]? = some (.cells cs 89 (0, 0)) := own_type hrow3 rb rfl
    obtain ⟨q, q1, q2, q3⟩ := hp
    refine P2.keep (S := [t, rb]) ⟨q, q1, q2, q3⟩ hF4 ?_ ?_
    · intro k hk
      obtain ⟨cs, hc⟩ := q1.type k hk
      simp
      constructor
      · rintro rfl; obtain ⟨cs', hc'⟩ := hb3t; rw [hc] at hc'; simp at hc'
      · rintro rfl; obtain ⟨cs', hc'⟩ := hb3r; rw [hc] at hc'; simp at hc'
    · intro k hk
      obtain ⟨cs, hc⟩ := own_type q2 k hk
      simp
      constructor
      · rintro rfl; obtain ⟨cs', hc'⟩ := hb3t; rw [hc] at hc'; simp at hc'
      · rintro rfl; obtain ⟨cs', hc'⟩ := hb3r; rw [hc] at hc'; simp at hc'
  have HG4 : Hid (Fr (t :: rb :: (rv.ownBlock.toList ++ lbs hs)) w w4) := HG3.out.trans hF4 (fun x hx _ => hx) (fun x hx _ => by simp at hx; simp; rcases hx with h | h <;> simp [h])
  clear hrow3 hl3 hF4
  go_wp2_with fail
  refine (growEntry_none bk rv hs3 w4 HB4.out).mono ?_
  rintro e _ ⟨rfl, rfl⟩
  go_wp2_with fail
  refine (growVersion_none bk rv hs3 w4 HB4.out).mono ?_
  rintro e _ ⟨rfl, rfl⟩
  go_wp2_with fail
  refine (growTxn_none bk rv hs3 w4 HB4.out).mono ?_
  rintro e _ ⟨rfl, rfl⟩
  go_wp2_with fail
  refine (growHeld_none bk rv hs3 w4 HB4.out).mono ?_
  rintro e _ ⟨rfl, rfl⟩
  go_wp2_with fail
  refine (growHeldList_none bk rv hs3 w4 HB4.out).mono ?_
  rintro e _ ⟨rfl, rfl⟩
  go_wp2_with fail
  refine (growEvent_none bk rv hs3 w4 HB4.out).mono ?_
  rintro e _ ⟨rfl, rfl⟩
  go_wp2_with fail
  refine (growAnswer_none bk rv hs3 w4 HB4.out).mono ?_
  rintro e _ ⟨rfl, rfl⟩
  go_wp2_with fail
  have hn3 : Num 1 hs3 := fun j b hb => by
    obtain ⟨b0, hb0, _, hbn⟩ := HG.out.same j b hb
    rw [hbn, hn j b0 hb0]
  refine (lookByte_any bk rv hs3 w4 HB4.out HP2.out hn3).mono ?_
  rintro e w5 ⟨rfl, hF5⟩
  have HB5 : Hid (Bk 1 (.slice (some ⟨rb, 0, none⟩) 1 rc) w5 bk rv hs3) := HB4.out.keep hF5 (by simp) (by simp)
  have hrow5 := owns_keep hrow4 hF5 (by simp)
  have hm51 := hm1.keep hF5 (by simp)
  have hm52 := hm2.keep hF5 (by simp)
  have HG5 : Hid (Fr (t :: rb :: (rv.ownBlock.toList ++ lbs hs)) w w5) := HG4.out.trans hF5 (fun x hx _ => hx) (by simp)
  clear hn3 hF5 hrow4 hm1 hm2
  go_wp2_with fail
  refine (lookInt_none bk rv hs3 w5 HB5.out).mono ?_
  rintro e _ ⟨rfl, rfl⟩
  go_wp2_with fail
  refine (lookText_none bk rv hs3 w5 HB5.out).mono ?_
  rintro e _ ⟨rfl, rfl⟩
  go_wp2_with fail
  refine (lookWrite_any bk rb rc rv hs3 t n lcap g gcap w5 HB5.out hrow5 hm51 hm52 hnn).mono ?_
  rintro e w6 ⟨rfl, hF6⟩
  have HB6 : Hid (Bk 1 (.slice (some ⟨rb, 0, none⟩) 1 rc) w6 bk rv hs3) := HB5.out.keep hF6 (by simp) (by simp)
  have HG6 : Hid (Fr (t :: rb :: (rv.ownBlock.toList ++ lbs hs)) w w6) := HG5.out.trans hF6 (fun x hx _ => hx) (by simp)
  clear hrow5 hm51 hm52 hF6
  go_wp2_with fail
  refine (lookEntry_none bk rv hs3 w6 HB6.out).mono ?_
  rintro e _ ⟨rfl, rfl⟩
  go_wp2_with fail
  refine (lookVersion_none bk rv hs3 w6 HB6.out).mono ?_
  rintro e _ ⟨rfl, rfl⟩
  go_wp2_with fail
  refine (lookTxn_none bk rv hs3 w6 HB6.out).mono ?_
  rintro e _ ⟨rfl, rfl⟩
  go_wp2_with fail
  refine (lookHeld_none bk rv hs3 w6 HB6.out).mono ?_
  rintro e _ ⟨rfl, rfl⟩
  go_wp2_with fail
  refine (lookHeldList_none bk rv hs3 w6 HB6.out).mono ?_
  rintro e _ ⟨rfl, rfl⟩
  go_wp2_with fail
  refine (lookEvent_none bk rv hs3 w6 HB6.out).mono ?_
  rintro e _ ⟨rfl, rfl⟩
  go_wp2_with fail
  refine (lookAnswer_none bk rv hs3 w6 HB6.out).mono ?_
  rintro e _ ⟨rfl, rfl⟩
  go_wp2_with fail
  go_ret
  exact ⟨rfl, HG6.out⟩
end Go.Proofs.YtcgfadmhjfncoaaGreatDoor
