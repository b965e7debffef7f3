/- Each call on both shards, there or not, by one word. Conditions as each names them. -/
import Derived.Test.YtkplammapbiebaaGreatDoorPr9
import Derived.Test.YtkplammapbiebaaGreatDoorKf9
namespace Go.Proofs.YtkplammapbiebaaGreatDoor
open Go.ChangeShapes Go.WideShapes Go.ChangeAt Go.RowKit Go.Lib Go.Maps
set_option linter.unusedVariables false
set_option linter.unusedSimpArgs false
section
variable {w0 w w' : World} {n : Nat} {Own : Nat → Prop} {s r : Option Addr}
theorem pr_install (h : Pr9 w0 w s r n Own) (hn : n < 1073741000) (num : Int) (key val : ByteArray) (drop : Bool) (hE : PEach ⟨num, key, val, drop⟩) :
    Calls Tryz.prog 66 #[.pointer s, .int .i64 num, .agg #[.string key, .string val, .bool drop]] w fun e w1 => ∃ (ok : Bool) (c : Int), e = .returned (.tuple #[.bool ok, .int .i64 c]) ∧ FrM w w1 Own ∧
      Calls Tryz.prog 67 #[.pointer r, .int .i64 num, .agg #[.string key, .string val, .bool drop]] w1 fun e w2 => e = .returned (.tuple #[.bool ok, .int .i64 c]) ∧ Nx9 w0 w w2 s r (n + 1) Own := by
  rcases h with ⟨sb, b, g, N, lc, lo, hs, rfl, rfl, h⟩ | ⟨h1, rfl, h3, h4⟩
  · have h0 : w0.heap.size ≤ w.heap.size := by have := h.sh.bn; have := h.sh.bl; omega
    refine (hinstall_any num key val drop w h.sh h0 hE (by omega)).mono ?_
    rintro e w1 ⟨ok, c, M', rfl, hI, hS1, hF1⟩
    obtain ⟨hK1, hM1⟩ := h.mid hF1
    have hs1 := hF1.size
    refine ⟨ok, _, rfl, hM1, (kinstall_any hK1 (Nat.le_trans h0 hs1) (by have := h.le; omega) num key val drop hE).mono ?_⟩
    rintro e w2 ⟨ok2, c2, N', lc', lo', gs, rfl, hI2, hK2, hN2, hKN, hRN, hF2⟩
    obtain ⟨e1, e2, e3⟩ := hI.one hI2
    subst e2 e3
    rw [e1] at hS1
    obtain ⟨Own', hL, hM2, hO⟩ := h.next hF1 hS1 hK2 (by have := h.le; omega) hF2 hKN hRN
    exact ⟨rfl, Own', Or.inl ⟨sb, b, g, N', lc', lo', gs, rfl, rfl, hL⟩, hM2, hO⟩
  · refine (hinstall_no s w h1 num key val drop).mono ?_
    rintro e w1 ⟨rfl, hF1⟩
    refine ⟨false, 2, rfl, FrM.of hF1, (kinstall_nil w1 num key val drop).mono ?_⟩
    rintro e w2 ⟨rfl, hF2⟩
    exact ⟨rfl, Own, Or.inr ⟨h1.keep (hF1.then hF2) (by simp), rfl, h3, h4⟩, FrM.of (hF1.then hF2), fun j hj => Or.inl hj⟩
theorem pr_collect (h : Pr9 w0 w s r n Own) (hn : n < 1073741000) (k : Int) :
    Calls Tryz.prog 72 #[.pointer s, .int .i64 k] w fun e w1 => ∃ (c : Int), e = .returned (.int .i64 c) ∧ FrM w w1 Own ∧
      Calls Tryz.prog 73 #[.pointer r, .int .i64 k] w1 fun e w2 => e = .returned (.int .i64 c) ∧ Nx9 w0 w w2 s r n Own := by
  rcases h with ⟨sb, b, g, N, lc, lo, hs, rfl, rfl, h⟩ | ⟨h1, rfl, h3, h4⟩
  · have h0 : w0.heap.size ≤ w.heap.size := by have := h.sh.bn; have := h.sh.bl; omega
    refine (hcollect_any k w h.sh h0 (by omega)).mono ?_
    rintro e w1 ⟨S, rfl, hG, _, hS1, hF1⟩
    obtain ⟨hK1, hM1⟩ := h.mid hF1
    refine ⟨_, rfl, hM1, (kcollect_any hK1 k).mono ?_⟩
    rintro e w2 ⟨gs, rfl, hK2, hC, hKN, hF2⟩
    have e1 : S = goH hs k := hG.one (goH_is h.ks.ok k)
    obtain ⟨_, e2⟩ := hC.is h.ks.ok
    rw [← e2] at hS1
    obtain ⟨Own', hL, hM2, hO⟩ := h.next hF1 hS1 hK2 h.le (hF2.mono (fun x hx _ => List.mem_cons_of_mem _ hx)) hKN (fun j hj => Or.inl hj)
    exact ⟨by rw [e1], Own', Or.inl ⟨sb, b, g, N, lc, lo, gs, rfl, rfl, hL⟩, hM2, hO⟩
  · refine (hcollect_no s w h1 k).mono ?_
    rintro e w1 ⟨rfl, rfl⟩
    refine ⟨0, rfl, FrM.of (Fr.refl _ _), (kcollect_nil w k).mono ?_⟩
    rintro e w2 ⟨rfl, rfl⟩
    exact ⟨rfl, Own, Or.inr ⟨h1, rfl, h3, h4⟩, FrM.of (Fr.refl _ _), fun j hj => Or.inl hj⟩
theorem pr_get (h : Pr9 w0 w s r n Own) (key : ByteArray) (k : Int) (hk : key.size ≤ 140737488355328) : ∃ (q : ByteArray) (o : Bool),
    Calls Tryz.prog 68 #[.pointer s, .string key, .int .i64 k] w (fun e w' => e = .returned (.tuple #[.string q, .bool o]) ∧ Fr [] w w') ∧
      ∀ V, Fr [] w V → Calls Tryz.prog 69 #[.pointer r, .string key, .int .i64 k] V fun e w' => e = .returned (.tuple #[.string q, .bool o]) ∧ Fr [] V w' := by
  rcases h with ⟨sb, b, g, N, lc, lo, hs, rfl, rfl, h⟩ | ⟨h1, rfl, h3, h4⟩
  · refine ⟨(valAt (mOf hs key) k).getD noS, (valAt (mOf hs key) k).isSome, hget_any key k w h.sh hk, fun V hf => (kget_any (h.ks.keep hf) key k).mono ?_⟩
    rintro e w2 ⟨q, o, rfl, hG, hF⟩
    obtain ⟨e1, e2⟩ := hG.is h.ks.ok
    rw [e1, e2]
    exact ⟨rfl, hF⟩
  · refine ⟨⟨#[]⟩, false, (hget_no s w h1 key k).mono ?_, fun V hf => (kget_nil V key k).mono ?_⟩
    · rintro e w1 ⟨rfl, rfl⟩; exact ⟨rfl, Fr.refl _ _⟩
    · rintro e w1 ⟨rfl, rfl⟩; exact ⟨rfl, Fr.refl _ _⟩
theorem pr_size (h : Pr9 w0 w s r n Own) (hn : n < 1073741000) : ∃ (c : Int), (∀ V, Fr [] w V → Calls Tryz.prog 14 #[.pointer s] V fun e w' => e = .returned (.int .i64 c) ∧ Fr [] V w') ∧
      (∀ V, Fr [] w V → Calls Tryz.prog 15 #[.pointer r] V fun e w' => e = .returned (.int .i64 c) ∧ Fr [] V w') ∧ (r = none → c = 0) := by
  rcases h with ⟨sb, b, g, N, lc, lo, hs, rfl, rfl, h⟩ | ⟨h1, rfl, h3, h4⟩
  · refine ⟨(szH hs : Int), fun V hf => (hsize_any V (h.sh.keep hf) (by omega)).mono ?_, fun V hf => ksize_any (h.ks.keep hf), fun e => by cases e⟩
    rintro e w1 ⟨S, rfl, hS, hF⟩
    rw [hS.one (szH_is h.ks.ok)]
    exact ⟨rfl, hF⟩
  · refine ⟨0, fun V hf => (hsize_no s V (h1.keep hf (by simp))).mono ?_, fun V hf => (ksize_nil V).mono ?_, fun _ => rfl⟩
    · rintro e w1 ⟨rfl, rfl⟩; exact ⟨rfl, Fr.refl _ _⟩
    · rintro e w1 ⟨rfl, rfl⟩; exact ⟨rfl, Fr.refl _ _⟩
theorem pr_scan (h : Pr9 w0 w s r n Own) (hn : n < 1073741000) (key en : ByteArray) (k : Int) : ∃ ps : List Pr, ps.length ≤ n ∧
    (∀ V, Fr [] w V → Calls Tryz.prog 19 #[.pointer s, .string key, .string en, .int .i64 k] V fun e w' => ∃ ro N rc, e = .returned (.slice ro N rc) ∧ EOut V w' ro N rc ps ∧ Fr [] V w') ∧
      ∀ V, Fr [] w V → Calls Tryz.prog 71 #[.pointer r, .string key, .string en, .int .i64 k] V fun e w' => ∃ ro N rc, e = .returned (.slice ro N rc) ∧ EOut V w' ro N rc ps ∧ Fr [] V w' := by
  have nil : ∀ V : World, EOut V V none 0 0 [] := fun V => ⟨rfl, World.ownsRow_nil _ _ _ _⟩
  rcases h with ⟨sb, b, g, N, lc, lo, hs, rfl, rfl, h⟩ | ⟨h1, rfl, h3, h4⟩
  · refine ⟨hs.filterMap (scOf key en k), ?_, fun V hf => (hScan_any key en k V (h.sh.keep hf) (by omega)).mono ?_, fun V hf => (kscan_any (h.ks.keep hf) key en k).mono ?_⟩
    · have := List.length_filterMap_le (scOf key en k) hs
      have := h.ks.log.len
      have := h.le
      omega
    · rintro e w1 ⟨ro, R, rc, ps, rfl, hE, _, hI, hF⟩
      obtain rfl := hI.unique (scOf_is h.ks.ok key en k)
      exact ⟨ro, R, rc, rfl, hE, hF⟩
    · rintro e w1 ⟨ro, R, rc, rfl, hE, _, hF⟩
      exact ⟨ro, R, rc, rfl, hE, hF⟩
  · refine ⟨[], by simp, fun V hf => (hScan_no s V (h1.keep hf (by simp)) key en k).mono ?_, fun V hf => (kscan_nil V key en k).mono ?_⟩
    · rintro e w1 ⟨rfl, rfl⟩; exact ⟨none, 0, 0, rfl, nil _, Fr.refl _ _⟩
    · rintro e w1 ⟨rfl, rfl⟩; exact ⟨none, 0, 0, rfl, nil _, Fr.refl _ _⟩
/-- Keys with their versions, told by both sides. -/
def HSame (w w' : World) (ro : Option Addr) (N rc n : Nat) (kv : List (ByteArray × List Vn)) : Prop := ∃ hs, HOut w w' ro N rc hs ∧ HRs w' ro hs ∧ hs.map hkv = kv ∧ N ≤ n ∧ ∀ x ∈ hs, x.vs.length ≤ 131072
theorem pr_all (h : Pr9 w0 w s r n Own) (hn : n < 1073741000) : ∃ kv,
    (∀ V, Fr [] w V → Calls Tryz.prog 16 #[.pointer s] V fun e w' => ∃ ro N rc, e = .returned (.slice ro N rc) ∧ HSame V w' ro N rc n kv ∧ Fr [] V w') ∧
      ∀ V, Fr [] w V → Calls Tryz.prog 21 #[.pointer r] V fun e w' => ∃ ro N rc hs, e = .returned (.slice ro N rc) ∧ N = hs.length ∧ HRs w' ro hs ∧ hs.map hkv = kv ∧ Fr [] V w' := by
  have nil : ∀ V : World, HOut V V none 0 0 [] := fun V => ⟨rfl, World.ownsRow_nil _ _ _ _, by simp, List.Pairwise.nil⟩
  have nil2 : ∀ V : World, HRs V none [] := fun V => ⟨fun h => by simp at h, by simp, by simp⟩
  rcases h with ⟨sb, b, g, N, lc, lo, hs, rfl, rfl, h⟩ | ⟨h1, rfl, h3, h4⟩
  · refine ⟨hs.map hkv, fun V hf => (hall_any V (h.sh.keep hf) (by omega)).mono ?_, fun V hf => (kall_any (h.ks.keep hf)).mono ?_⟩
    · rintro e w1 ⟨ro, R, rc, ps, rfl, hO, hR, hP, hF⟩
      have hl : LoOk ps := hP.ok (fun k hk => (h.ks.ok.2 _ (mOf_ne hk).choose_spec.1).1 |> fun q => by rw [(mOf_ne hk).choose_spec.2] at q; exact q) (fun k => mOf_ok h.ks.ok k)
      exact ⟨ro, R, rc, rfl, ⟨ps, hO, hO.rs hl (by omega), hP.one (mOf_pk h.ks.ok), hR, fun x hx => by have := okV_few (hl.2 x hx).2.2; omega⟩, hF⟩
    · rintro e w1 ⟨ro, rc, gs, rfl, hO, hG, hF⟩
      have hk := h.ks.ok.kv hG
      exact ⟨ro, N, rc, gs, rfl, hO.len, hO.rs hk.1 (by have := h.le; omega), hG, hF⟩
  · refine ⟨[], fun V hf => (hall_no s V (h1.keep hf (by simp))).mono ?_, fun V hf => (kall_nil V).mono ?_⟩
    · rintro e w1 ⟨rfl, rfl⟩; exact ⟨none, 0, 0, rfl, ⟨[], nil _, nil2 _, rfl, Nat.zero_le _, by simp⟩, Fr.refl _ _⟩
    · rintro e w1 ⟨rfl, rfl⟩; exact ⟨none, 0, 0, [], rfl, rfl, nil2 _, rfl, Fr.refl _ _⟩
theorem pr_dump (h : Pr9 w0 w s r n Own) (hn : n < 1073741000) (k : Int) (ns : List Int) : ∃ kv,
    (∀ V, Fr [] w V → ∀ (bo : Option Addr) (Mn cb : Nat), IRs V bo ns → Mn = ns.length → Calls Tryz.prog 17 #[.pointer s, .int .i64 k, .slice bo Mn cb] V fun e w' => ∃ ro N rc, e = .returned (.slice ro N rc) ∧ HSame V w' ro N rc n kv ∧ Fr [] V w') ∧
      ∀ V, Fr [] w V → ∀ (bo : Option Addr) (Mn cb : Nat), IRs V bo ns → Mn = ns.length → Calls Tryz.prog 75 #[.pointer r, .int .i64 k, .slice bo Mn cb] V fun e w' => ∃ ro N rc hs, e = .returned (.slice ro N rc) ∧ N = hs.length ∧ HRs w' ro hs ∧ hs.map hkv = kv ∧ Fr [] V w' := by
  have nil : ∀ V W : World, HOut V W none 0 0 [] := fun V W => ⟨rfl, World.ownsRow_nil _ _ _ _, by simp, List.Pairwise.nil⟩
  have nil2 : ∀ V : World, HRs V none [] := fun V => ⟨fun h => by simp at h, by simp, by simp⟩
  rcases h with ⟨sb, b, g, N, lc, lo, hs, rfl, rfl, h⟩ | ⟨h1, rfl, h3, h4⟩
  · refine ⟨hs.filterMap (duOf k ns), fun V hf bo Mn cb hI hM => (hdump_any k bo Mn cb ns V (h.sh.keep hf) (by omega) hI hM).mono ?_, fun V hf bo Mn cb hI hM => (kdump_any (h.ks.keep hf) k bo Mn cb ns hI hM).mono ?_⟩
    · rintro e w1 ⟨ro, R, rc, ps, rfl, hO, hR, hP, hF⟩
      have hl : LoOk ps := hP.ok (fun k hk => (h.ks.ok.2 _ (mOf_ne hk).choose_spec.1).1 |> fun q => by rw [(mOf_ne hk).choose_spec.2] at q; exact q) (fun q => okV_sub (mOf_ok h.ks.ok q) (dmp_sub (mOf_ok h.ks.ok q) k ns))
      obtain ⟨qs, hq⟩ : ∃ qs : List Hd, qs.map hkv = hs.filterMap (duOf k ns) := ⟨(hs.filterMap (duOf k ns)).map fun p => ⟨p.1, none, 0, 0, p.2⟩, by simp [List.map_map, Function.comp_def, hkv]⟩
      exact ⟨ro, R, rc, rfl, ⟨ps, hO, hO.rs hl (by omega), by rw [← hq]; exact hP.one (duOf_is h.ks.ok k ns hq), hR, fun x hx => by have := okV_few (hl.2 x hx).2.2; omega⟩, hF⟩
    · rintro e w1 ⟨ro, R, rc, gs, rfl, hO, hR, hG, hF⟩
      exact ⟨ro, R, rc, gs, rfl, hO.len, hO.rs (by have := h.le; omega), hG, hF⟩
  · refine ⟨[], fun V hf bo Mn cb hI hM => (hdump_no s V (h1.keep hf (by simp)) k bo Mn cb).mono ?_, fun V hf bo Mn cb hI hM => (kdump_nil V k bo Mn cb).mono ?_⟩
    · rintro e w1 ⟨rfl, hF⟩; exact ⟨none, 0, 0, rfl, ⟨[], nil _ _, nil2 _, rfl, Nat.zero_le _, by simp⟩, hF⟩
    · rintro e w1 ⟨rfl, rfl⟩; exact ⟨none, 0, 0, [], rfl, rfl, nil2 _, rfl, Fr.refl _ _⟩
end
end Go.Proofs.YtkplammapbiebaaGreatDoor
