/- The document's Step of a saver: contracts. Conditions: a disk that is there, apart from the saver; fewer than 2^40 raw writes. -/
import Derived.Test.YtembflnhhfliaaaGreatDoorZs19
namespace Go.Proofs.YtembflnhhfliaaaGreatDoor
open BigFrame Go.ChangeShapes Go.WideShapes Go.ChangeAt Go.RowKit Go.Lib Go.Maps
set_option linter.unusedVariables false
set_option linter.unusedSimpArgs false

/-- What is left behind a step. -/
def ZtP (w0 w : World) (d tb ab ac slot : Nat) (S : List Nat) (zs : List Nat) (E : Int) (t' : Sk) (k' : Nat) (e : Ending) (w' : World) : Prop := e = .returned (.int .i64 E) ∧ ∃ S', LR w0 w' d S' t' ∧ ZaM w' tb d ab ac slot zs k' ∧ (∀ q ∈ S', q ∈ S ∨ w.heap.size ≤ q) ∧ Fr (tb :: S) w w'
set_option maxHeartbeats 2000000 in
theorem zstep_idle {w0 w : World} {d tb ab ac slot k : Nat} {S : List Nat} {t : Sk} {zs : List Nat} (h : LR w0 w d S t) (hs : ZaM w tb d ab ac slot zs k) (hk : k = nB zs.length + 1) :
    Calls Tryz.prog 27 #[.pointer (some ⟨tb, 0, none⟩)] w fun e w' => ZtP w0 w d tb ab ac slot S zs 9 t k e w' := by
  have HL : Hid (Calls _ _ _ _ _) := zleft_any (n := 0) hs (by omega)
  have HR : Hid (∀ W, Fr [] w W → ZtP w0 w d tb ab ac slot S zs 9 t k (.returned (.int .i64 9)) W) := fun W hf => ⟨rfl, S, h.quiet hf, hs.keep hf (by simp) (by simp), fun q hq => Or.inl hq, hf.mono (by simp)⟩
  clear h hs hk
  go_enter Tryz.func27, Tryz.ntmps27
  go_wp2_with fail
  refine Calls.mono HL.out ?_
  rintro e w1 ⟨rfl, hF1⟩
  have HR1 : Hid (ZtP w0 w d tb ab ac slot S zs 9 t k (.returned (.int .i64 9)) w1) := HR.out w1 hF1
  clear HL HR hF1
  go_wp2
  go_ret
  exact HR1.out
set_option maxHeartbeats 4000000 in
set_option maxRecDepth 100000 in
theorem zstep_clear0 {w0 w : World} {d tb ab ac slot k : Nat} {S : List Nat} {t t' : Sk} {zs : List Nat} (h : LR w0 w d S t) (hs : ZaM w tb d ab ac slot zs k) (h1 : tb ∉ S) (h3 : ab ∉ S) (hnw : w0.heap.size ≤ tb) (hn : t.n < 2^40) (hk0 : k = 0) (hc : Cleared t (slot : Int) 0 t') :
    Calls Tryz.prog 27 #[.pointer (some ⟨tb, 0, none⟩)] w fun e w' => ZtP w0 w d tb ab ac slot S zs 0 t' (k + 1) e w' := by
  obtain ⟨n, hnn⟩ : ∃ n, n = nB zs.length + 1 - k := ⟨_, rfl⟩
  have HL : Hid (Calls _ _ _ _ _) := zleft_any hs hnn
  have hn0 : ((n : Int) == 0) = false := by simp; omega
  have hkb : k ≤ 262145 := by have := nB_few hs.few; have := hs.kle; omega
  have HK : Hid (k ≤ nB zs.length) := by show _ ≤ _; omega
  have HSm : Hid (∀ W, Fr [] w W → ZaM W tb d ab ac slot zs k) := fun W hf => hs.keep hf (by simp) (by simp)
  have HLr : Hid (∀ W, Fr [] w W → LR w0 W d S t) := fun W hf => h.quiet hf
  have HAp : Hid ((tb ∉ S ∧ ab ∉ S) ∧ w0.heap.size ≤ tb) := ⟨⟨h1, h3⟩, hnw⟩
  have HBl : Hid (tb < w.heap.size ∧ ab < w.heap.size) := ⟨hs.blocks.1, hs.blocks.2.1⟩
  have hke : ((k : Int) == 0) = true := by simp; omega
  have HC : Hid (∀ W, Fr [] w W → Calls Tryz.prog 22 #[.pointer (some ⟨d, 0, none⟩), .int .i64 (slot : Int)] W fun e w' => e = .returned (.int .i64 0) ∧ ∃ S', LR w0 w' d S' t' ∧ To S S' W w') := fun W hf => lr_clear (h.quiet hf) hn hc
  clear h hs h1 h3 hnn hk0 hc hnw hn
  go_enter Tryz.func27, Tryz.ntmps27
  go_wp2_with fail
  refine Calls.mono HL.out ?_
  rintro e w1 ⟨rfl, hF1⟩
  clear HL
  have hS1 := HSm.out w1 hF1
  have c3 := hS1.c3
  have hFd : Fr [] w w1.drew := hF1.then (Fr.drew [] w1)
  have hSd := HSm.out _ hFd
  have e0 := hS1.c0
  have e1 := hS1.c1
  have d0 := hSd.c0
  have d1 := hSd.c1
  have HCd : Hid (Calls Tryz.prog 22 #[.pointer (some ⟨d, 0, none⟩), .int .i64 (slot : Int)] w1.drew fun e w' => e = .returned (.int .i64 0) ∧ ∃ S', LR w0 w' d S' t' ∧ To S S' w1.drew w' ∧ w'.cell? ⟨tb, 0, none⟩ = some (.pointer (some ⟨d, 0, none⟩)) ∧ w'.cell? ⟨tb, 1, none⟩ = some (.int .i64 (slot : Int))) := (HC.out _ hFd).mono (fun e w' ⟨q1, S', q2, q3⟩ => by
    have h9 := hSd.keep q3.fr HAp.out.1.1 HAp.out.1.2
    exact ⟨q1, S', q2, q3, h9.c0, h9.c1⟩)
  have HFd : Hid (Fr [] w w1.drew) := hFd
  clear hS1 hSd hFd hF1 HC
  go_upto_region 7 with fail
  go_loud (go_region_held3 (fun W => W.cell? ⟨tb, 0, none⟩ = some (.pointer (some ⟨d, 0, none⟩)) ∧ W.cell? ⟨tb, 1, none⟩ = some (.int .i64 (slot : Int))) (go_keep)
    (first
    | (go_at_call 22; with_reducible refine HCd.out.mono ?_; rintro e2 w2 ⟨rfl, S', hL, hT, l0, l1⟩)))
  have HS2 : Hid (ZaM w2 tb d ab ac slot zs k) := (HSm.out _ HFd.out).keep hT.fr HAp.out.1.1 HAp.out.1.2
  have HT2 : Hid (LR w0 w2 d S' t' ∧ To S S' w w2) := ⟨hL, (To.quiet HFd.out).then hT⟩
  have c3' := HS2.out.c3
  have f3' := HS2.out.f3
  clear hL hT HCd HSm HLr
  have HR : Hid (ZtP w0 w d tb ab ac slot S zs 0 t' (k + 1) (.returned (.int .i64 0)) (w2.setCell ⟨tb, 3, none⟩ (.int .i64 ((k : Int) + 1)))) := by
    obtain ⟨q1, q2⟩ := HS2.out.step HK.out
    have hsS' : ∀ q ∈ [tb], q ∉ S' := fun q hq hm => by
      simp at hq
      subst hq
      rcases HT2.out.2.grew q hm with p | p
      · exact HAp.out.1.1 p
      · have := HBl.out.1; omega
    exact ⟨rfl, S', HT2.out.1.keepS q2 hsS' (fun q hq => by simp at hq; subst hq; exact HAp.out.2), q1, HT2.out.2.grew, (HT2.out.2.fr.mono (fun x hx _ => List.mem_cons_of_mem _ hx)).then (q2.mono (fun x hx _ => by simp at hx; subst hx; exact List.mem_cons_self))⟩
  go_wp2
  go_ret
  exact HR.out
set_option maxHeartbeats 4000000 in
set_option maxRecDepth 100000 in
theorem zstep_clearN {w0 w : World} {d tb ab ac slot k : Nat} {S : List Nat} {t t' : Sk} {E : Int} {zs : List Nat} (h : LR w0 w d S t) (hs : ZaM w tb d ab ac slot zs k) (h1 : tb ∉ S) (h3 : ab ∉ S) (hnw : w0.heap.size ≤ tb) (hn : t.n < 2^40) (hk0 : k = 0) (hc : Cleared t (slot : Int) E t') (hne : E ≠ 0) :
    Calls Tryz.prog 27 #[.pointer (some ⟨tb, 0, none⟩)] w fun e w' => ZtP w0 w d tb ab ac slot S zs E t' k e w' := by
  obtain ⟨n, hnn⟩ : ∃ n, n = nB zs.length + 1 - k := ⟨_, rfl⟩
  have HL : Hid (Calls _ _ _ _ _) := zleft_any hs hnn
  have hn0 : ((n : Int) == 0) = false := by simp; omega
  have hkb : k ≤ 262145 := by have := nB_few hs.few; have := hs.kle; omega
  have HK : Hid (k ≤ nB zs.length) := by show _ ≤ _; omega
  have HSm : Hid (∀ W, Fr [] w W → ZaM W tb d ab ac slot zs k) := fun W hf => hs.keep hf (by simp) (by simp)
  have HLr : Hid (∀ W, Fr [] w W → LR w0 W d S t) := fun W hf => h.quiet hf
  have HAp : Hid ((tb ∉ S ∧ ab ∉ S) ∧ w0.heap.size ≤ tb) := ⟨⟨h1, h3⟩, hnw⟩
  have HBl : Hid (tb < w.heap.size ∧ ab < w.heap.size) := ⟨hs.blocks.1, hs.blocks.2.1⟩
  have hke : ((k : Int) == 0) = true := by simp; omega
  have HC : Hid (∀ W, Fr [] w W → Calls Tryz.prog 22 #[.pointer (some ⟨d, 0, none⟩), .int .i64 (slot : Int)] W fun e w' => e = .returned (.int .i64 E) ∧ ∃ S', LR w0 w' d S' t' ∧ To S S' W w') := fun W hf => lr_clear (h.quiet hf) hn hc
  clear h hs h1 h3 hnn hk0 hc hnw hn
  go_enter Tryz.func27, Tryz.ntmps27
  go_wp2_with fail
  refine Calls.mono HL.out ?_
  rintro e w1 ⟨rfl, hF1⟩
  clear HL
  have hS1 := HSm.out w1 hF1
  have c3 := hS1.c3
  have hFd : Fr [] w w1.drew := hF1.then (Fr.drew [] w1)
  have hSd := HSm.out _ hFd
  have e0 := hS1.c0
  have e1 := hS1.c1
  have d0 := hSd.c0
  have d1 := hSd.c1
  have HCd : Hid (Calls Tryz.prog 22 #[.pointer (some ⟨d, 0, none⟩), .int .i64 (slot : Int)] w1.drew fun e w' => e = .returned (.int .i64 E) ∧ ∃ S', LR w0 w' d S' t' ∧ To S S' w1.drew w' ∧ w'.cell? ⟨tb, 0, none⟩ = some (.pointer (some ⟨d, 0, none⟩)) ∧ w'.cell? ⟨tb, 1, none⟩ = some (.int .i64 (slot : Int))) := (HC.out _ hFd).mono (fun e w' ⟨q1, S', q2, q3⟩ => by
    have h9 := hSd.keep q3.fr HAp.out.1.1 HAp.out.1.2
    exact ⟨q1, S', q2, q3, h9.c0, h9.c1⟩)
  have HFd : Hid (Fr [] w w1.drew) := hFd
  clear hS1 hSd hFd hF1 HC
  go_upto_region 7 with fail
  go_loud (go_region_held3 (fun W => W.cell? ⟨tb, 0, none⟩ = some (.pointer (some ⟨d, 0, none⟩)) ∧ W.cell? ⟨tb, 1, none⟩ = some (.int .i64 (slot : Int))) (go_keep)
    (first
    | (go_at_call 22; with_reducible refine HCd.out.mono ?_; rintro e2 w2 ⟨rfl, S', hL, hT, l0, l1⟩)))
  have HS2 : Hid (ZaM w2 tb d ab ac slot zs k) := (HSm.out _ HFd.out).keep hT.fr HAp.out.1.1 HAp.out.1.2
  have HT2 : Hid (LR w0 w2 d S' t' ∧ To S S' w w2) := ⟨hL, (To.quiet HFd.out).then hT⟩
  have c3' := HS2.out.c3
  have f3' := HS2.out.f3
  clear hL hT HCd HSm HLr
  have HR : Hid (ZtP w0 w d tb ab ac slot S zs E t' k (.returned (.int .i64 E)) w2) := ⟨rfl, S', HT2.out.1, HS2.out, HT2.out.2.grew, HT2.out.2.fr.mono (fun x hx _ => List.mem_cons_of_mem _ hx)⟩
  have hE : (E == 0) = false := by simpa using hne
  go_wp2
  go_ret
  exact HR.out
set_option maxHeartbeats 4000000 in
set_option maxRecDepth 100000 in
theorem zstep_write0 {w0 w : World} {d tb ab ac slot k : Nat} {S : List Nat} {t t' : Sk} {zs : List Nat} (h : LR w0 w d S t) (hs : ZaM w tb d ab ac slot zs k) (h1 : tb ∉ S) (h3 : ab ∉ S) (hnw : w0.heap.size ≤ tb) (hn : t.n < 2^40) (q : Nat) (hk : k = q + 1) (hq : q < nB zs.length) (hc : Wrote t (slot : Int) ((64 * q : Nat) : Int) (chunk zs q) 0 t') :
    Calls Tryz.prog 27 #[.pointer (some ⟨tb, 0, none⟩)] w fun e w' => ZtP w0 w d tb ab ac slot S zs 0 t' (k + 1) e w' := by
  obtain ⟨n, hnn⟩ : ∃ n, n = nB zs.length + 1 - k := ⟨_, rfl⟩
  have HL : Hid (Calls _ _ _ _ _) := zleft_any hs hnn
  have hn0 : ((n : Int) == 0) = false := by simp; omega
  have hkb : k ≤ 262145 := by have := nB_few hs.few; have := hs.kle; omega
  have HK : Hid (k ≤ nB zs.length) := by show _ ≤ _; omega
  have HSm : Hid (∀ W, Fr [] w W → ZaM W tb d ab ac slot zs k) := fun W hf => hs.keep hf (by simp) (by simp)
  have HLr : Hid (∀ W, Fr [] w W → LR w0 W d S t) := fun W hf => h.quiet hf
  have HAp : Hid ((tb ∉ S ∧ ab ∉ S) ∧ w0.heap.size ≤ tb) := ⟨⟨h1, h3⟩, hnw⟩
  have HBl : Hid (tb < w.heap.size ∧ ab < w.heap.size) := ⟨hs.blocks.1, hs.blocks.2.1⟩
  have hke : ((k : Int) == 0) = false := by simp; omega
  have hq64 : 64 * q < zs.length ∧ zs.length ≤ 16777216 := ⟨nB_lt hq, hs.few⟩
  obtain ⟨a, haq⟩ : ∃ a, a = 64 * q := ⟨_, rfl⟩
  obtain ⟨L, hL⟩ : ∃ L, L = zs.length := ⟨_, rfl⟩
  obtain ⟨en, hen⟩ : ∃ en, en = min (a + 64) L := ⟨_, rfl⟩
  have HCh : Hid (∀ W, Fr [] w W → BArg W (some ⟨ab, a, none⟩) (en - a) (ac - a) (chunk zs q)) := fun W hf => by
    have h9 := (hs.keep hf (by simp) (by simp)).chunk q hq
    rw [hen, haq, hL]
    exact h9
  have hka : ((k : Int) - 1) * 64 = (a : Int) := by omega
  have hfit : L ≤ ac := by rw [hL]; exact (own_arg hs.byt hs.low (by omega)).fits
  have HC : Hid (∀ W, Fr [] w W → Calls Tryz.prog 20 #[.pointer (some ⟨d, 0, none⟩), .int .i64 (slot : Int), .int .i64 (a : Int), .slice (some ⟨ab, a, none⟩) (en - a) (ac - a)] W fun e w' => e = .returned (.int .i64 0) ∧ ∃ S', LR w0 w' d S' t' ∧ To S S' W w') := fun W hf => lr_write (h.quiet hf) hn (by omega) (HCh.out W hf) (fun _ p hp => by cases hp; exact h3) (by rw [haq]; exact hc)
  have hb1 : a < L := by omega
  have hb2 : L ≤ 16777216 := by omega
  have hsl : ∀ W : World, (Instr.sliceAt 58 (.slice (some ⟨ab, 0, none⟩) L ac) (some (.int .i64 (a : Int))) (some (.int .i64 (en : Int))) none).run Tryz.prog W = .ok (.slice (some ⟨ab, a, none⟩) (en - a) (ac - a)) W := fun W => by
    rw [slB_lh (some ⟨ab, 0, none⟩) L ac a en (by omega) (by omega) W]
    unfold fromB
    rw [if_neg (by omega)]
    simp [Addr.add_lit]
  have HL9 : Hid (L = zs.length) := hL
  have HEn : Hid (en = min (a + 64) L) := hen
  clear h hs h1 h3 hnn hk hc hnw hn hq haq hen hq64 hL HCh
  go_enter Tryz.func27, Tryz.ntmps27
  go_wp2_with fail
  refine Calls.mono HL.out ?_
  rintro e w1 ⟨rfl, hF1⟩
  clear HL
  have hS1 := HSm.out w1 hF1
  have c3 := hS1.c3
  have hFd : Fr [] w w1.drew := hF1.then (Fr.drew [] w1)
  have hSd := HSm.out _ hFd
  have e0 := hS1.c0
  have e1 := hS1.c1
  have d0 := hSd.c0
  have d1 := hSd.c1
  have e2 := hS1.c2
  have d2 := hSd.c2
  rw [← HL9.out] at e2 d2
  have HCd : Hid (Calls Tryz.prog 20 #[.pointer (some ⟨d, 0, none⟩), .int .i64 (slot : Int), .int .i64 (a : Int), .slice (some ⟨ab, a, none⟩) (en - a) (ac - a)] w1.drew fun e w' => e = .returned (.int .i64 0) ∧ ∃ S', LR w0 w' d S' t' ∧ To S S' w1.drew w' ∧ w'.cell? ⟨tb, 0, none⟩ = some (.pointer (some ⟨d, 0, none⟩)) ∧ w'.cell? ⟨tb, 1, none⟩ = some (.int .i64 (slot : Int)) ∧ w'.cell? ⟨tb, 2, none⟩ = some (.slice (some ⟨ab, 0, none⟩) L ac)) := (HC.out _ hFd).mono (fun e w' ⟨q1, S', q2, q3⟩ => by
    have h9 := hSd.keep q3.fr HAp.out.1.1 HAp.out.1.2
    exact ⟨q1, S', q2, q3, h9.c0, h9.c1, by rw [HL9.out]; exact h9.c2⟩)
  have HFd : Hid (Fr [] w w1.drew) := hFd
  clear hS1 hSd hFd hF1 HC
  by_cases hgt : L < a + 64
  · have hgt' : (L : Int) < (a : Int) + 64 := by omega
    have een : en = L := by have := HEn.out; omega
    rw [een] at hsl HCd
    clear een HEn hgt
    go_upto_region 12 with fail
    go_loud (go_region_held3 (fun W => W.cell? ⟨tb, 0, none⟩ = some (.pointer (some ⟨d, 0, none⟩)) ∧ W.cell? ⟨tb, 1, none⟩ = some (.int .i64 (slot : Int)) ∧ W.cell? ⟨tb, 2, none⟩ = some (.slice (some ⟨ab, 0, none⟩) L ac)) (go_keep)
      (first
      | (go_at_call 20; with_reducible refine HCd.out.mono ?_; rintro e2 w2 ⟨rfl, S', hL, hT, l0, l1, l2⟩)))
    have HS2 : Hid (ZaM w2 tb d ab ac slot zs k) := (HSm.out _ HFd.out).keep hT.fr HAp.out.1.1 HAp.out.1.2
    have HT2 : Hid (LR w0 w2 d S' t' ∧ To S S' w w2) := ⟨hL, (To.quiet HFd.out).then hT⟩
    have c3' := HS2.out.c3
    have f3' := HS2.out.f3
    clear hL hT HCd HSm HLr
    have HR : Hid (ZtP w0 w d tb ab ac slot S zs 0 t' (k + 1) (.returned (.int .i64 0)) (w2.setCell ⟨tb, 3, none⟩ (.int .i64 ((k : Int) + 1)))) := by
      obtain ⟨q1, q2⟩ := HS2.out.step HK.out
      have hsS' : ∀ q ∈ [tb], q ∉ S' := fun q hq hm => by
        simp at hq
        subst hq
        rcases HT2.out.2.grew q hm with p | p
        · exact HAp.out.1.1 p
        · have := HBl.out.1; omega
      exact ⟨rfl, S', HT2.out.1.keepS q2 hsS' (fun q hq => by simp at hq; subst hq; exact HAp.out.2), q1, HT2.out.2.grew, (HT2.out.2.fr.mono (fun x hx _ => List.mem_cons_of_mem _ hx)).then (q2.mono (fun x hx _ => by simp at hx; subst hx; exact List.mem_cons_self))⟩
    go_wp2
    go_ret
    exact HR.out
  · have hgt' : ¬ (L : Int) < (a : Int) + 64 := by omega
    have een : en = a + 64 := by have := HEn.out; omega
    rw [een] at hsl HCd
    rw [show ((a + 64 : Nat) : Int) = (a : Int) + 64 from by omega, show a + 64 - a = 64 by omega] at hsl
    rw [show a + 64 - a = 64 by omega] at HCd
    clear een HEn hgt
    go_upto_region 12 with fail
    go_loud (go_region_held3 (fun W => W.cell? ⟨tb, 0, none⟩ = some (.pointer (some ⟨d, 0, none⟩)) ∧ W.cell? ⟨tb, 1, none⟩ = some (.int .i64 (slot : Int)) ∧ W.cell? ⟨tb, 2, none⟩ = some (.slice (some ⟨ab, 0, none⟩) L ac)) (go_keep)
      (first
      | (go_at_call 20; with_reducible refine HCd.out.mono ?_; rintro e2 w2 ⟨rfl, S', hL, hT, l0, l1, l2⟩)))
    have HS2 : Hid (ZaM w2 tb d ab ac slot zs k) := (HSm.out _ HFd.out).keep hT.fr HAp.out.1.1 HAp.out.1.2
    have HT2 : Hid (LR w0 w2 d S' t' ∧ To S S' w w2) := ⟨hL, (To.quiet HFd.out).then hT⟩
    have c3' := HS2.out.c3
    have f3' := HS2.out.f3
    clear hL hT HCd HSm HLr
    have HR : Hid (ZtP w0 w d tb ab ac slot S zs 0 t' (k + 1) (.returned (.int .i64 0)) (w2.setCell ⟨tb, 3, none⟩ (.int .i64 ((k : Int) + 1)))) := by
      obtain ⟨q1, q2⟩ := HS2.out.step HK.out
      have hsS' : ∀ q ∈ [tb], q ∉ S' := fun q hq hm => by
        simp at hq
        subst hq
        rcases HT2.out.2.grew q hm with p | p
        · exact HAp.out.1.1 p
        · have := HBl.out.1; omega
      exact ⟨rfl, S', HT2.out.1.keepS q2 hsS' (fun q hq => by simp at hq; subst hq; exact HAp.out.2), q1, HT2.out.2.grew, (HT2.out.2.fr.mono (fun x hx _ => List.mem_cons_of_mem _ hx)).then (q2.mono (fun x hx _ => by simp at hx; subst hx; exact List.mem_cons_self))⟩
    go_wp2
    go_ret
    exact HR.out
set_option maxHeartbeats 4000000 in
set_option maxRecDepth 100000 in
theorem zstep_writeN {w0 w : World} {d tb ab ac slot k : Nat} {S : List Nat} {t t' : Sk} {E : Int} {zs : List Nat} (h : LR w0 w d S t) (hs : ZaM w tb d ab ac slot zs k) (h1 : tb ∉ S) (h3 : ab ∉ S) (hnw : w0.heap.size ≤ tb) (hn : t.n < 2^40) (q : Nat) (hk : k = q + 1) (hq : q < nB zs.length) (hc : Wrote t (slot : Int) ((64 * q : Nat) : Int) (chunk zs q) E t') (hne : E ≠ 0) :
    Calls Tryz.prog 27 #[.pointer (some ⟨tb, 0, none⟩)] w fun e w' => ZtP w0 w d tb ab ac slot S zs E t' k e w' := by
  obtain ⟨n, hnn⟩ : ∃ n, n = nB zs.length + 1 - k := ⟨_, rfl⟩
  have HL : Hid (Calls _ _ _ _ _) := zleft_any hs hnn
  have hn0 : ((n : Int) == 0) = false := by simp; omega
  have hkb : k ≤ 262145 := by have := nB_few hs.few; have := hs.kle; omega
  have HK : Hid (k ≤ nB zs.length) := by show _ ≤ _; omega
  have HSm : Hid (∀ W, Fr [] w W → ZaM W tb d ab ac slot zs k) := fun W hf => hs.keep hf (by simp) (by simp)
  have HLr : Hid (∀ W, Fr [] w W → LR w0 W d S t) := fun W hf => h.quiet hf
  have HAp : Hid ((tb ∉ S ∧ ab ∉ S) ∧ w0.heap.size ≤ tb) := ⟨⟨h1, h3⟩, hnw⟩
  have HBl : Hid (tb < w.heap.size ∧ ab < w.heap.size) := ⟨hs.blocks.1, hs.blocks.2.1⟩
  have hke : ((k : Int) == 0) = false := by simp; omega
  have hq64 : 64 * q < zs.length ∧ zs.length ≤ 16777216 := ⟨nB_lt hq, hs.few⟩
  obtain ⟨a, haq⟩ : ∃ a, a = 64 * q := ⟨_, rfl⟩
  obtain ⟨L, hL⟩ : ∃ L, L = zs.length := ⟨_, rfl⟩
  obtain ⟨en, hen⟩ : ∃ en, en = min (a + 64) L := ⟨_, rfl⟩
  have HCh : Hid (∀ W, Fr [] w W → BArg W (some ⟨ab, a, none⟩) (en - a) (ac - a) (chunk zs q)) := fun W hf => by
    have h9 := (hs.keep hf (by simp) (by simp)).chunk q hq
    rw [hen, haq, hL]
    exact h9
  have hka : ((k : Int) - 1) * 64 = (a : Int) := by omega
  have hfit : L ≤ ac := by rw [hL]; exact (own_arg hs.byt hs.low (by omega)).fits
  have HC : Hid (∀ W, Fr [] w W → Calls Tryz.prog 20 #[.pointer (some ⟨d, 0, none⟩), .int .i64 (slot : Int), .int .i64 (a : Int), .slice (some ⟨ab, a, none⟩) (en - a) (ac - a)] W fun e w' => e = .returned (.int .i64 E) ∧ ∃ S', LR w0 w' d S' t' ∧ To S S' W w') := fun W hf => lr_write (h.quiet hf) hn (by omega) (HCh.out W hf) (fun _ p hp => by cases hp; exact h3) (by rw [haq]; exact hc)
  have hb1 : a < L := by omega
  have hb2 : L ≤ 16777216 := by omega
  have hsl : ∀ W : World, (Instr.sliceAt 58 (.slice (some ⟨ab, 0, none⟩) L ac) (some (.int .i64 (a : Int))) (some (.int .i64 (en : Int))) none).run Tryz.prog W = .ok (.slice (some ⟨ab, a, none⟩) (en - a) (ac - a)) W := fun W => by
    rw [slB_lh (some ⟨ab, 0, none⟩) L ac a en (by omega) (by omega) W]
    unfold fromB
    rw [if_neg (by omega)]
    simp [Addr.add_lit]
  have HL9 : Hid (L = zs.length) := hL
  have HEn : Hid (en = min (a + 64) L) := hen
  clear h hs h1 h3 hnn hk hc hnw hn hq haq hen hq64 hL HCh
  go_enter Tryz.func27, Tryz.ntmps27
  go_wp2_with fail
  refine Calls.mono HL.out ?_
  rintro e w1 ⟨rfl, hF1⟩
  clear HL
  have hS1 := HSm.out w1 hF1
  have c3 := hS1.c3
  have hFd : Fr [] w w1.drew := hF1.then (Fr.drew [] w1)
  have hSd := HSm.out _ hFd
  have e0 := hS1.c0
  have e1 := hS1.c1
  have d0 := hSd.c0
  have d1 := hSd.c1
  have e2 := hS1.c2
  have d2 := hSd.c2
  rw [← HL9.out] at e2 d2
  have HCd : Hid (Calls Tryz.prog 20 #[.pointer (some ⟨d, 0, none⟩), .int .i64 (slot : Int), .int .i64 (a : Int), .slice (some ⟨ab, a, none⟩) (en - a) (ac - a)] w1.drew fun e w' => e = .returned (.int .i64 E) ∧ ∃ S', LR w0 w' d S' t' ∧ To S S' w1.drew w' ∧ w'.cell? ⟨tb, 0, none⟩ = some (.pointer (some ⟨d, 0, none⟩)) ∧ w'.cell? ⟨tb, 1, none⟩ = some (.int .i64 (slot : Int)) ∧ w'.cell? ⟨tb, 2, none⟩ = some (.slice (some ⟨ab, 0, none⟩) L ac)) := (HC.out _ hFd).mono (fun e w' ⟨q1, S', q2, q3⟩ => by
    have h9 := hSd.keep q3.fr HAp.out.1.1 HAp.out.1.2
    exact ⟨q1, S', q2, q3, h9.c0, h9.c1, by rw [HL9.out]; exact h9.c2⟩)
  have HFd : Hid (Fr [] w w1.drew) := hFd
  clear hS1 hSd hFd hF1 HC
  by_cases hgt : L < a + 64
  · have hgt' : (L : Int) < (a : Int) + 64 := by omega
    have een : en = L := by have := HEn.out; omega
    rw [een] at hsl HCd
    clear een HEn hgt
    go_upto_region 12 with fail
    go_loud (go_region_held3 (fun W => W.cell? ⟨tb, 0, none⟩ = some (.pointer (some ⟨d, 0, none⟩)) ∧ W.cell? ⟨tb, 1, none⟩ = some (.int .i64 (slot : Int)) ∧ W.cell? ⟨tb, 2, none⟩ = some (.slice (some ⟨ab, 0, none⟩) L ac)) (go_keep)
      (first
      | (go_at_call 20; with_reducible refine HCd.out.mono ?_; rintro e2 w2 ⟨rfl, S', hL, hT, l0, l1, l2⟩)))
    have HS2 : Hid (ZaM w2 tb d ab ac slot zs k) := (HSm.out _ HFd.out).keep hT.fr HAp.out.1.1 HAp.out.1.2
    have HT2 : Hid (LR w0 w2 d S' t' ∧ To S S' w w2) := ⟨hL, (To.quiet HFd.out).then hT⟩
    have c3' := HS2.out.c3
    have f3' := HS2.out.f3
    clear hL hT HCd HSm HLr
    have HR : Hid (ZtP w0 w d tb ab ac slot S zs E t' k (.returned (.int .i64 E)) w2) := ⟨rfl, S', HT2.out.1, HS2.out, HT2.out.2.grew, HT2.out.2.fr.mono (fun x hx _ => List.mem_cons_of_mem _ hx)⟩
    have hE : (E == 0) = false := by simpa using hne
    go_wp2
    go_ret
    exact HR.out
  · have hgt' : ¬ (L : Int) < (a : Int) + 64 := by omega
    have een : en = a + 64 := by have := HEn.out; omega
    rw [een] at hsl HCd
    rw [show ((a + 64 : Nat) : Int) = (a : Int) + 64 from by omega, show a + 64 - a = 64 by omega] at hsl
    rw [show a + 64 - a = 64 by omega] at HCd
    clear een HEn hgt
    go_upto_region 12 with fail
    go_loud (go_region_held3 (fun W => W.cell? ⟨tb, 0, none⟩ = some (.pointer (some ⟨d, 0, none⟩)) ∧ W.cell? ⟨tb, 1, none⟩ = some (.int .i64 (slot : Int)) ∧ W.cell? ⟨tb, 2, none⟩ = some (.slice (some ⟨ab, 0, none⟩) L ac)) (go_keep)
      (first
      | (go_at_call 20; with_reducible refine HCd.out.mono ?_; rintro e2 w2 ⟨rfl, S', hL, hT, l0, l1, l2⟩)))
    have HS2 : Hid (ZaM w2 tb d ab ac slot zs k) := (HSm.out _ HFd.out).keep hT.fr HAp.out.1.1 HAp.out.1.2
    have HT2 : Hid (LR w0 w2 d S' t' ∧ To S S' w w2) := ⟨hL, (To.quiet HFd.out).then hT⟩
    have c3' := HS2.out.c3
    have f3' := HS2.out.f3
    clear hL hT HCd HSm HLr
    have HR : Hid (ZtP w0 w d tb ab ac slot S zs E t' k (.returned (.int .i64 E)) w2) := ⟨rfl, S', HT2.out.1, HS2.out, HT2.out.2.grew, HT2.out.2.fr.mono (fun x hx _ => List.mem_cons_of_mem _ hx)⟩
    have hE : (E == 0) = false := by simpa using hne
    go_wp2
    go_ret
    exact HR.out
theorem zstep_any {w0 w : World} {d tb ab ac slot k k' : Nat} {S : List Nat} {t t' : Sk} {E : Int} {zs : List Nat} (h : LR w0 w d S t) (hs : ZaM w tb d ab ac slot zs k) (h1 : tb ∉ S) (h3 : ab ∉ S) (hnw : w0.heap.size ≤ tb) (hn : t.n < 2^40) (hr : StepR t slot zs k E t' k') :
    Calls Tryz.prog 27 #[.pointer (some ⟨tb, 0, none⟩)] w fun e w' => ZtP w0 w d tb ab ac slot S zs E t' k' e w' := by
  cases hr with
  | idle hk => exact zstep_idle h hs hk
  | clear hk hc he => subst he; exact zstep_clear0 h hs h1 h3 hnw hn hk hc
  | clearNo hk hc he => exact zstep_clearN h hs h1 h3 hnw hn hk hc he
  | write q hk hq hc he => subst he; exact zstep_write0 h hs h1 h3 hnw hn q hk hq hc
  | writeNo q hk hq hc he => exact zstep_writeN h hs h1 h3 hnw hn q hk hq hc he
end Go.Proofs.YtembflnhhfliaaaGreatDoor
