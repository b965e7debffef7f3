/- Texts of this claim laid together, one behind the other: contracts and plain lemmas; conditions as each names them. -/
import Derived.Test.YtkplammapbiebaaGreatDoorGp26
import Derived.Test.YtkplammapbiebaaGreatDoorGp4
import Derived.Laws.ResultCell
import Derived.Deep.RegionLaw
import Derived.Deep.RegionWith
import Derived.Deep.RegionHeld3
import Derived.Deep.CutRange
import Derived.Test.YtkplammapbiebaaGreatDoorGp7
/- Each call on both shards, there or not, by one word. Conditions as each names them. -/
namespace Go.Proofs.YtkplammapbiebaaGreatDoor
open Go.ChangeShapes Go.WideShapes Go.ChangeAt Go.RowKit Go.Lib Go.Maps
set_option linter.unusedVariables false
set_option linter.unusedSimpArgs false
section
variable {w0 w w' : World} {n : Nat} {Own : Nat → Prop} {s r : Option Addr}
theorem pr_install (h : Pr9 w0 w s r n Own) (hn : n < 1073741000) (num : Int) (key val : ByteArray) (drop : Bool) (hE : PEach ⟨num, key, val, drop⟩) :
    Calls Tryz.prog 66 #[.pointer s, .int .i64 num, .agg #[.string key, .string val, .bool drop]] w fun e w1 => ∃ (ok : Bool) (c : Int), e = .returned (.tuple #[.bool ok, .int .i64 c]) ∧ FrM w w1 Own ∧
      Calls Tryz.prog 67 #[.pointer r, .int .i64 num, .agg #[.string key, .string val, .bool drop]] w1 fun e w2 => e = .returned (.tuple #[.bool ok, .int .i64 c]) ∧ Nx9 w0 w w2 s r (n + 1) Own := by
  rcases h with ⟨sb, b, g, N, lc, lo, hs, rfl, rfl, h⟩ | ⟨h1, rfl, h3, h4⟩
  · have h0 : w0.heap.size ≤ w.heap.size := by have := h.sh.bn; have := h.sh.bl; omega
    refine (hinstall_any num key val drop w h.sh h0 hE (by omega)).mono ?_
    rintro e w1 ⟨ok, c, M', rfl, hI, hS1, hF1⟩
    obtain ⟨hK1, hM1⟩ := h.mid hF1
    have hs1 := hF1.size
    refine ⟨ok, _, rfl, hM1, (kinstall_any hK1 (Nat.le_trans h0 hs1) (by have := h.le; omega) num key val drop hE).mono ?_⟩
    rintro e w2 ⟨ok2, c2, N', lc', lo', gs, rfl, hI2, hK2, hN2, hKN, hRN, hF2⟩
    obtain ⟨e1, e2, e3⟩ := hI.one hI2
    subst e2 e3
    rw [e1] at hS1
    obtain ⟨Own', hL, hM2, hO⟩ := h.next hF1 hS1 hK2 (by have := h.le; omega) hF2 hKN hRN
    exact ⟨rfl, Own', Or.inl ⟨sb, b, g, N', lc', lo', gs, rfl, rfl, hL⟩, hM2, hO⟩
  · refine (hinstall_no s w h1 num key val drop).mono ?_
    rintro e w1 ⟨rfl, hF1⟩
    refine ⟨false, 2, rfl, FrM.of hF1, (kinstall_nil w1 num key val drop).mono ?_⟩
    rintro e w2 ⟨rfl, hF2⟩
    exact ⟨rfl, Own, Or.inr ⟨h1.keep (hF1.then hF2) (by simp), rfl, h3, h4⟩, FrM.of (hF1.then hF2), fun j hj => Or.inl hj⟩
theorem pr_collect (h : Pr9 w0 w s r n Own) (hn : n < 1073741000) (k : Int) :
    Calls Tryz.prog 72 #[.pointer s, .int .i64 k] w fun e w1 => ∃ (c : Int), e = .returned (.int .i64 c) ∧ FrM w w1 Own ∧
      Calls Tryz.prog 73 #[.pointer r, .int .i64 k] w1 fun e w2 => e = .returned (.int .i64 c) ∧ Nx9 w0 w w2 s r n Own := by
  rcases h with ⟨sb, b, g, N, lc, lo, hs, rfl, rfl, h⟩ | ⟨h1, rfl, h3, h4⟩
  · have h0 : w0.heap.size ≤ w.heap.size := by have := h.sh.bn; have := h.sh.bl; omega
    refine (hcollect_any k w h.sh h0 (by omega)).mono ?_
    rintro e w1 ⟨S, rfl, hG, _, hS1, hF1⟩
    obtain ⟨hK1, hM1⟩ := h.mid hF1
    refine ⟨_, rfl, hM1, (kcollect_any hK1 k).mono ?_⟩
    rintro e w2 ⟨gs, rfl, hK2, hC, hKN, hF2⟩
    have e1 : S = goH hs k := hG.one (goH_is h.ks.ok k)
    obtain ⟨_, e2⟩ := hC.is h.ks.ok
    rw [← e2] at hS1
    obtain ⟨Own', hL, hM2, hO⟩ := h.next hF1 hS1 hK2 h.le (hF2.mono (fun x hx _ => List.mem_cons_of_mem _ hx)) hKN (fun j hj => Or.inl hj)
    exact ⟨by rw [e1], Own', Or.inl ⟨sb, b, g, N, lc, lo, gs, rfl, rfl, hL⟩, hM2, hO⟩
  · refine (hcollect_no s w h1 k).mono ?_
    rintro e w1 ⟨rfl, rfl⟩
    refine ⟨0, rfl, FrM.of (Fr.refl _ _), (kcollect_nil w k).mono ?_⟩
    rintro e w2 ⟨rfl, rfl⟩
    exact ⟨rfl, Own, Or.inr ⟨h1, rfl, h3, h4⟩, FrM.of (Fr.refl _ _), fun j hj => Or.inl hj⟩
theorem pr_get (h : Pr9 w0 w s r n Own) (key : ByteArray) (k : Int) (hk : key.size ≤ 140737488355328) : ∃ (q : ByteArray) (o : Bool),
    Calls Tryz.prog 68 #[.pointer s, .string key, .int .i64 k] w (fun e w' => e = .returned (.tuple #[.string q, .bool o]) ∧ Fr [] w w') ∧
      ∀ V, Fr [] w V → Calls Tryz.prog 69 #[.pointer r, .string key, .int .i64 k] V fun e w' => e = .returned (.tuple #[.string q, .bool o]) ∧ Fr [] V w' := by
  rcases h with ⟨sb, b, g, N, lc, lo, hs, rfl, rfl, h⟩ | ⟨h1, rfl, h3, h4⟩
  · refine ⟨(valAt (mOf hs key) k).getD noS, (valAt (mOf hs key) k).isSome, hget_any key k w h.sh hk, fun V hf => (kget_any (h.ks.keep hf) key k).mono ?_⟩
    rintro e w2 ⟨q, o, rfl, hG, hF⟩
    obtain ⟨e1, e2⟩ := hG.is h.ks.ok
    rw [e1, e2]
    exact ⟨rfl, hF⟩
  · refine ⟨⟨#[]⟩, false, (hget_no s w h1 key k).mono ?_, fun V hf => (kget_nil V key k).mono ?_⟩
    · rintro e w1 ⟨rfl, rfl⟩; exact ⟨rfl, Fr.refl _ _⟩
    · rintro e w1 ⟨rfl, rfl⟩; exact ⟨rfl, Fr.refl _ _⟩
theorem pr_size (h : Pr9 w0 w s r n Own) (hn : n < 1073741000) : ∃ (c : Int), (∀ V, Fr [] w V → Calls Tryz.prog 14 #[.pointer s] V fun e w' => e = .returned (.int .i64 c) ∧ Fr [] V w') ∧
      (∀ V, Fr [] w V → Calls Tryz.prog 15 #[.pointer r] V fun e w' => e = .returned (.int .i64 c) ∧ Fr [] V w') ∧ (r = none → c = 0) := by
  rcases h with ⟨sb, b, g, N, lc, lo, hs, rfl, rfl, h⟩ | ⟨h1, rfl, h3, h4⟩
  · refine ⟨(szH hs : Int), fun V hf => (hsize_any V (h.sh.keep hf) (by omega)).mono ?_, fun V hf => ksize_any (h.ks.keep hf), fun e => by cases e⟩
    rintro e w1 ⟨S, rfl, hS, hF⟩
    rw [hS.one (szH_is h.ks.ok)]
    exact ⟨rfl, hF⟩
  · refine ⟨0, fun V hf => (hsize_no s V (h1.keep hf (by simp))).mono ?_, fun V hf => (ksize_nil V).mono ?_, fun _ => rfl⟩
    · rintro e w1 ⟨rfl, rfl⟩; exact ⟨rfl, Fr.refl _ _⟩
    · rintro e w1 ⟨rfl, rfl⟩; exact ⟨rfl, Fr.refl _ _⟩
theorem pr_scan (h : Pr9 w0 w s r n Own) (hn : n < 1073741000) (key en : ByteArray) (k : Int) : ∃ ps : List Pr, ps.length ≤ n ∧
    (∀ V, Fr [] w V → Calls Tryz.prog 19 #[.pointer s, .string key, .string en, .int .i64 k] V fun e w' => ∃ ro N rc, e = .returned (.slice ro N rc) ∧ EOut V w' ro N rc ps ∧ Fr [] V w') ∧
      ∀ V, Fr [] w V → Calls Tryz.prog 71 #[.pointer r, .string key, .string en, .int .i64 k] V fun e w' => ∃ ro N rc, e = .returned (.slice ro N rc) ∧ EOut V w' ro N rc ps ∧ Fr [] V w' := by
  have nil : ∀ V : World, EOut V V none 0 0 [] := fun V => ⟨rfl, World.ownsRow_nil _ _ _ _⟩
  rcases h with ⟨sb, b, g, N, lc, lo, hs, rfl, rfl, h⟩ | ⟨h1, rfl, h3, h4⟩
  · refine ⟨hs.filterMap (scOf key en k), ?_, fun V hf => (hScan_any key en k V (h.sh.keep hf) (by omega)).mono ?_, fun V hf => (kscan_any (h.ks.keep hf) key en k).mono ?_⟩
    · have := List.length_filterMap_le (scOf key en k) hs
      have := h.ks.log.len
      have := h.le
      omega
    · rintro e w1 ⟨ro, R, rc, ps, rfl, hE, _, hI, hF⟩
      obtain rfl := hI.unique (scOf_is h.ks.ok key en k)
      exact ⟨ro, R, rc, rfl, hE, hF⟩
    · rintro e w1 ⟨ro, R, rc, rfl, hE, _, hF⟩
      exact ⟨ro, R, rc, rfl, hE, hF⟩
  · refine ⟨[], by simp, fun V hf => (hScan_no s V (h1.keep hf (by simp)) key en k).mono ?_, fun V hf => (kscan_nil V key en k).mono ?_⟩
    · rintro e w1 ⟨rfl, rfl⟩; exact ⟨none, 0, 0, rfl, nil _, Fr.refl _ _⟩
    · rintro e w1 ⟨rfl, rfl⟩; exact ⟨none, 0, 0, rfl, nil _, Fr.refl _ _⟩
/-- Keys with their versions, told by both sides. -/
def HSame (w w' : World) (ro : Option Addr) (N rc n : Nat) (kv : List (ByteArray × List Vn)) : Prop := ∃ hs, HOut w w' ro N rc hs ∧ HRs w' ro hs ∧ hs.map hkv = kv ∧ N ≤ n ∧ ∀ x ∈ hs, x.vs.length ≤ 131072
theorem pr_all (h : Pr9 w0 w s r n Own) (hn : n < 1073741000) : ∃ kv,
    (∀ V, Fr [] w V → Calls Tryz.prog 16 #[.pointer s] V fun e w' => ∃ ro N rc, e = .returned (.slice ro N rc) ∧ HSame V w' ro N rc n kv ∧ Fr [] V w') ∧
      ∀ V, Fr [] w V → Calls Tryz.prog 21 #[.pointer r] V fun e w' => ∃ ro N rc hs, e = .returned (.slice ro N rc) ∧ N = hs.length ∧ HRs w' ro hs ∧ hs.map hkv = kv ∧ Fr [] V w' := by
  have nil : ∀ V : World, HOut V V none 0 0 [] := fun V => ⟨rfl, World.ownsRow_nil _ _ _ _, by simp, List.Pairwise.nil⟩
  have nil2 : ∀ V : World, HRs V none [] := fun V => ⟨fun h => by simp at h, by simp, by simp⟩
  rcases h with ⟨sb, b, g, N, lc, lo, hs, rfl, rfl, h⟩ | ⟨h1, rfl, h3, h4⟩
  · refine ⟨hs.map hkv, fun V hf => (hall_any V (h.sh.keep hf) (by omega)).mono ?_, fun V hf => (kall_any (h.ks.keep hf)).mono ?_⟩
    · rintro e w1 ⟨ro, R, rc, ps, rfl, hO, hR, hP, hF⟩
      have hl : LoOk ps := hP.ok (fun k hk => (h.ks.ok.2 _ (mOf_ne hk).choose_spec.1).1 |> fun q => by rw [(mOf_ne hk).choose_spec.2] at q; exact q) (fun k => mOf_ok h.ks.ok k)
      exact ⟨ro, R, rc, rfl, ⟨ps, hO, hO.rs hl (by omega), hP.one (mOf_pk h.ks.ok), hR, fun x hx => by have := okV_few (hl.2 x hx).2.2; omega⟩, hF⟩
    · rintro e w1 ⟨ro, rc, gs, rfl, hO, hG, hF⟩
      have hk := h.ks.ok.kv hG
      exact ⟨ro, N, rc, gs, rfl, hO.len, hO.rs hk.1 (by have := h.le; omega), hG, hF⟩
  · refine ⟨[], fun V hf => (hall_no s V (h1.keep hf (by simp))).mono ?_, fun V hf => (kall_nil V).mono ?_⟩
    · rintro e w1 ⟨rfl, rfl⟩; exact ⟨none, 0, 0, rfl, ⟨[], nil _, nil2 _, rfl, Nat.zero_le _, by simp⟩, Fr.refl _ _⟩
    · rintro e w1 ⟨rfl, rfl⟩; exact ⟨none, 0, 0, [], rfl, rfl, nil2 _, rfl, Fr.refl _ _⟩
theorem pr_dump (h : Pr9 w0 w s r n Own) (hn : n < 1073741000) (k : Int) (ns : List Int) : ∃ kv,
    (∀ V, Fr [] w V → ∀ (bo : Option Addr) (Mn cb : Nat), IRs V bo ns → Mn = ns.length → Calls Tryz.prog 17 #[.pointer s, .int .i64 k, .slice bo Mn cb] V fun e w' => ∃ ro N rc, e = .returned (.slice ro N rc) ∧ HSame V w' ro N rc n kv ∧ Fr [] V w') ∧
      ∀ V, Fr [] w V → ∀ (bo : Option Addr) (Mn cb : Nat), IRs V bo ns → Mn = ns.length → Calls Tryz.prog 75 #[.pointer r, .int .i64 k, .slice bo Mn cb] V fun e w' => ∃ ro N rc hs, e = .returned (.slice ro N rc) ∧ N = hs.length ∧ HRs w' ro hs ∧ hs.map hkv = kv ∧ Fr [] V w' := by
  have nil : ∀ V W : World, HOut V W none 0 0 [] := fun V W => ⟨rfl, World.ownsRow_nil _ _ _ _, by simp, List.Pairwise.nil⟩
  have nil2 : ∀ V : World, HRs V none [] := fun V => ⟨fun h => by simp at h, by simp, by simp⟩
  rcases h with ⟨sb, b, g, N, lc, lo, hs, rfl, rfl, h⟩ | ⟨h1, rfl, h3, h4⟩
  · refine ⟨hs.filterMap (duOf k ns), fun V hf bo Mn cb hI hM => (hdump_any k bo Mn cb ns V (h.sh.keep hf) (by omega) hI hM).mono ?_, fun V hf bo Mn cb hI hM => (kdump_any (h.ks.keep hf) k bo Mn cb ns hI hM).mono ?_⟩
    · rintro e w1 ⟨ro, R, rc, ps, rfl, hO, hR, hP, hF⟩
      have hl : LoOk ps := hP.ok (fun k hk => (h.ks.ok.2 _ (mOf_ne hk).choose_spec.1).1 |> fun q => by rw [(mOf_ne hk).choose_spec.2] at q; exact q) (fun q => okV_sub (mOf_ok h.ks.ok q) (dmp_sub (mOf_ok h.ks.ok q) k ns))
      obtain ⟨qs, hq⟩ : ∃ qs : List Hd, qs.map hkv = hs.filterMap (duOf k ns) := ⟨(hs.filterMap (duOf k ns)).map fun p => ⟨p.1, none, 0, 0, p.2⟩, by simp [List.map_map, Function.comp_def, hkv]⟩
      exact ⟨ro, R, rc, rfl, ⟨ps, hO, hO.rs hl (by omega), by rw [← hq]; exact hP.one (duOf_is h.ks.ok k ns hq), hR, fun x hx => by have := okV_few (hl.2 x hx).2.2; omega⟩, hF⟩
    · rintro e w1 ⟨ro, R, rc, gs, rfl, hO, hR, hG, hF⟩
      exact ⟨ro, R, rc, gs, rfl, hO.len, hO.rs (by have := h.le; omega), hG, hF⟩
  · refine ⟨[], fun V hf bo Mn cb hI hM => (hdump_no s V (h1.keep hf (by simp)) k bo Mn cb).mono ?_, fun V hf bo Mn cb hI hM => (kdump_nil V k bo Mn cb).mono ?_⟩
    · rintro e w1 ⟨rfl, hF⟩; exact ⟨none, 0, 0, rfl, ⟨[], nil _ _, nil2 _, rfl, Nat.zero_le _, by simp⟩, hF⟩
    · rintro e w1 ⟨rfl, rfl⟩; exact ⟨none, 0, 0, [], rfl, rfl, nil2 _, rfl, Fr.refl _ _⟩
end
end Go.Proofs.YtkplammapbiebaaGreatDoor
/- What the statements' helpers TwinVersions and LeftVersions answer. Conditions: fewer than 2^21 versions. -/
namespace Go.Proofs.YtkplammapbiebaaGreatDoor
open Go.ChangeShapes Go.WideShapes Go.ChangeAt Go.RowKit Go.Lib
set_option linter.unusedVariables false
set_option linter.unusedSimpArgs false

/-- The version that stands in a twin's spare room. -/
def spV : Vn := ⟨7777, ⟨#[]⟩, false⟩
theorem Tryz.infoVnW : (Tryz.prog.info? 79).map (fun i => (i.zero, i.size, i.bytes)) = some (some (.agg #[.int .i64 0, .string ⟨#[]⟩, .bool false]), 3, 32) := by kernel_rfl
theorem Tryz.undVnsW : Tryz.prog.underlying 69 = some (.slice 79) := by kernel_rfl
theorem vown_full {w : World} {g n : Nat} {xs : List Value} (h : w.ownsRow 0 79 3 (.slice (some ⟨g, 0, none⟩) n n) n xs) : w.heap[g]? = some (.cells xs.toArray 79 (0, 0)) := by
  have hl := h.1
  rcases h.2 with ⟨hh, _⟩ | ⟨g', cap', cur, hh, _, hg, _, _, hcs, ht⟩
  · cases hh
  · cases hh
    rw [hg]
    congr 2
    rw [← Array.toList_inj]
    simp only
    rw [← ht, List.take_of_length_le (by simp [hcs])]

set_option maxHeartbeats 4000000 in
set_option maxRecDepth 100000 in
theorem twinVs_any (ao : Option Addr) (L cap : Nat) (ws : List Vn) (w : World) (h : VRs w ao ws) (hLe : L = ws.length) (hL : L < 2^21) :
    Calls Tryz.prog 84 #[.slice ao L cap] w fun e w' => ∃ b, e = .returned (.slice (some ⟨b, 0, none⟩) L (L + 1)) ∧ w.heap.size ≤ b ∧ w'.heap[b]? = some (.cells (vnsC (ws ++ [spV])).toArray 79 (0, 0)) ∧ Fr [] w w' := by
  obtain ⟨i0, hi, hz0, hz1, hz2⟩ := info_parts Tryz.infoVnW
  have HL : Hid (L = ws.length) := hLe
  clear hLe
  go_enter Tryz.func84, Tryz.ntmps84
  go_wp2_with (at_make; refine wpList_make_own _ rfl (.const (.int .i64 0)) (.tmp 7) 69 rfl 0 79 i0 _ 3 Tryz.undVnsW hi hz0 hz1 .i64 .i64 ((L : Int) + 1) (L + 1) rfl rfl ?bC ?b2 ?b3 ?b4 ?_)
  case bC => simp
  case b2 => rw [hz2]; omega
  case b3 => unfold maxLen; omega
  case b4 => exact Nat.zero_le _
  intro w1 hown hgrow
  obtain ⟨g, hg⟩ : ∃ g, g = w.heap.size := ⟨_, rfl⟩
  have hgw : w.heap.size ≤ g := by omega
  rw [← hg] at hown ⊢
  have h01 : Fr [] w w1 := Fr.grown (S := []) hgrow (by simp)
  clear hgrow hg
  go_wp2_with fail
  go_loopw [3, 4] (fun vv ii wr => ∃ i : Nat, vv = .slice (some ⟨g, 0, none⟩) i (L + 1) ∧ ii = .int .i64 i ∧ i ≤ L ∧ wr.ownsRow 0 79 3 (.slice (some ⟨g, 0, none⟩) i (L + 1)) i (vnsC (ws.take i)) ∧ Fr [] w wr) (fun _ ii _ => L - (RowKit.intOf ii).toNat)
  case atStart => exact ⟨0, rfl, rfl, Nat.zero_le _, hown, h01⟩
  case round =>
    obtain ⟨i, rfl, rfl, hiL, hO, hF⟩ := hrel
    have hsz := (hO.lt g rfl).2
    by_cases hil : i < L
    · have hi' : i < ws.length := by rw [← HL.out]; exact hil
      obtain ⟨b, off, e, _, hc⟩ := (h.keep hF).lies (by omega)
      subst e
      obtain ⟨d0, d1, d2⟩ := hc i hi'
      obtain ⟨x, hx⟩ : ∃ x, x = ws.getD i Vn.zero := ⟨_, rfl⟩
      rw [← hx] at d0 d1 d2
      have HE : Hid (vnsC (ws.take (i + 1)) = vnsC (ws.take i) ++ [.int .i64 x.num, .string x.val, .bool x.drop]) := by
        show _ = _
        rw [vtake_snoc ws i hi', vnsC_append, ← hx]; rfl
      clear hc hx
      obtain ⟨key, val, drop⟩ := x
      simp only at d0 d1 d2 HE
      go_wp2_with (at_builtin; refine wpList_append_fits _ rfl (.tmp 15) (.tmp 20) 69 rfl 0 79 i0 3 Tryz.undVnsW hi hz1 g i (L + 1) _ rfl (hO.alloc _) ⟨wr.heap.size, 0, none⟩ 1 1 [.int .i64 key, .string val, .bool drop] rfl rfl ?c1 ?c2 ?c3 ?_)
      case c1 => intro j u hj; match j, hj with | 0, hj => simp at hj; subst hj; simp [Addr.add] | 1, hj => simp at hj; subst hj; simp [Addr.add] | 2, hj => simp at hj; subst hj; simp [Addr.add]
      case c2 => intro u hu; simp at hu; rcases hu with rfl | rfl | rfl <;> rfl
      case c3 => omega
      intro w2 hO2 hg2
      rw [← HE.out] at hO2
      have hF2 : Fr [] w w2 := (hF.then (Fr.alloc [] wr _)).on (Fr.grown (S := [g]) hg2 (by intro k hk _; cases hk; simp)) (by intro y hy; simp at hy; omega)
      clear hO hg2 hF d0 d1 d2
      go_wp2
      go_roundw
      case rel => exact ⟨i + 1, rfl, by simp, by omega, hO2, hF2⟩
      case measure => simp [RowKit.intOf]; omega
    · have hiL' : L ≤ i := by omega
      obtain rfl : i = L := by omega
      have HE : Hid (vnsC (ws ++ [spV]) = vnsC (ws.take i) ++ [.int .i64 7777, .string ⟨#[]⟩, .bool false]) := by
        show _ = _
        rw [List.take_of_length_le (by rw [← HL.out]; omega), vnsC_append]; rfl
      go_wp2_with (at_builtin; refine wpList_append_fits _ rfl (.tmp 22) (.tmp 24) 69 rfl 0 79 i0 3 Tryz.undVnsW hi hz1 g i (i + 1) _ rfl (hO.alloc _) ⟨wr.heap.size, 0, none⟩ 1 1 [.int .i64 7777, .string ⟨#[]⟩, .bool false] rfl rfl ?c1 ?c2 ?c3 ?_)
      case c1 => intro j u hj; match j, hj with | 0, hj => simp at hj; subst hj; simp [Addr.add] | 1, hj => simp at hj; subst hj; simp [Addr.add] | 2, hj => simp at hj; subst hj; simp [Addr.add]
      case c2 => intro u hu; simp at hu; rcases hu with rfl | rfl | rfl <;> rfl
      case c3 => omega
      intro w2 hO2 hg2
      rw [← HE.out] at hO2
      have hF2 : Fr [] w w2 := (hF.then (Fr.alloc [] wr _)).on (Fr.grown (S := [g]) hg2 (by intro k hk _; cases hk; simp)) (by intro y hy; simp at hy; omega)
      have HRow : Hid (w2.heap[g]? = some (.cells (vnsC (ws ++ [spV])).toArray 79 (0, 0))) := vown_full hO2
      clear hO hg2 hF hO2
      go_wp2
      go_ret
      exact ⟨g, rfl, hgw, HRow.out, hF2⟩


set_option maxHeartbeats 4000000 in
set_option maxRecDepth 100000 in
theorem leftVs_any (t : Nat) (ao : Option Addr) (L cap : Nat) (ws : List Vn) (w : World) (h : VRs w ao ws) (hLe : L = ws.length) (hL : L < 2^21) (hrow : w.heap[t]? = some (.cells (vnsC (ws ++ [spV])).toArray 79 (0, 0))) :
    Calls Tryz.prog 87 #[.slice (some ⟨t, 0, none⟩) L (L + 1), .slice ao L cap] w fun e w' => e = .returned (.bool true) ∧ Fr [] w w' := by
  have HL : Hid (L = ws.length) := hLe
  clear hLe
  have hct : ∀ j, j < L → VAt w t (j * 3) (ws.getD j Vn.zero) := by
    intro j hj
    have key : ∀ c, c < 3 → w.cell? ⟨t, j * 3 + c, none⟩ = (vnC (ws.getD j Vn.zero))[c]? := by
      intro c hc
      rw [cell_of_row _ _ _ _ _ _ hrow]
      have := vnsC_get (ws ++ [spV]) j c (by rw [List.length_append, ← HL.out]; simp; omega) hc
      have e : (ws ++ [spV]).getD j Vn.zero = ws.getD j Vn.zero := by simp [List.getD, List.getElem?_append_left (show j < ws.length by rw [← HL.out]; exact hj)]
      rw [e] at this
      simpa using this
    exact ⟨key 0 (by omega), key 1 (by omega), key 2 (by omega)⟩
  have hsp : VAt w t (L * 3) spV := by
    have key : ∀ c, c < 3 → w.cell? ⟨t, L * 3 + c, none⟩ = (vnC spV)[c]? := by
      intro c hc
      rw [cell_of_row _ _ _ _ _ _ hrow]
      have := vnsC_get (ws ++ [spV]) L c (by rw [List.length_append, ← HL.out]; simp) hc
      have e : (ws ++ [spV]).getD L Vn.zero = spV := by simp [List.getD, HL.out]
      rw [e] at this
      simpa using this
    exact ⟨key 0 (by omega), key 1 (by omega), key 2 (by omega)⟩
  have hne : ((L : Int) != L) = false := by simp
  have hgd := Tryz.guardVn
  clear hrow
  go_enter Tryz.func87, Tryz.ntmps87
  go_wp2_with fail
  go_loopw [5] (fun ii wr => ∃ (i q : Nat), ii = .int .i64 i ∧ i ≤ L ∧ Hid (wr = w.drewN q)) (fun ii _ => L - (RowKit.intOf ii).toNat)
  case atStart => exact ⟨0, 0, rfl, Nat.zero_le _, rfl⟩
  case round =>
    obtain ⟨i, q, rfl, hiL, HQ⟩ := hrel
    have hce : ∀ a, wr.cell? a = w.cell? a := fun a => by rw [HQ.out]; rfl
    by_cases hi : i < L
    · have hi' : i < ws.length := by rw [← HL.out]; exact hi
      obtain ⟨b, off, e, _, hc⟩ := h.lies (by omega)
      subst e
      obtain ⟨c0, c1, c2⟩ := hct i hi
      obtain ⟨d0, d1, d2⟩ := hc i hi'
      obtain ⟨x, hxx⟩ : ∃ x, x = ws.getD i Vn.zero := ⟨_, rfl⟩
      rw [← hxx, ← hce] at c0 c1 c2 d0 d1 d2
      clear hxx hct hc hsp hce
      have hq : ∀ w', (Op.equalIn 10000 79 (.agg #[.int .i64 x.num, .string x.val, .bool x.drop]) (.agg #[.int .i64 x.num, .string x.val, .bool x.drop])).run Tryz.prog w' = .ok true w' := fun w' => by rw [vn_in w' x x, (sameV_iff x x).2 rfl]
      go_wp2_with fail
      go_quiet (fail)
      go_wp2
      go_roundw
      case rel => exact ⟨i + 1, q + nq, by simp, by omega, by show _ = _; rw [HQ.out]; simp⟩
      case measure => simp [RowKit.intOf]; omega
    · have hiL' : L ≤ i := by omega
      obtain ⟨c0, c1, c2⟩ := hsp
      rw [← hce] at c0 c1 c2
      have hFq : Fr [] w wr := by rw [HQ.out]; exact Fr.drewN _ _ _
      clear hct hce
      have hq : ∀ w', (Op.equalIn 10000 79 (.agg #[.int .i64 7777, .string ⟨#[]⟩, .bool false]) (.agg #[.int .i64 7777, .string ⟨#[]⟩, .bool false])).run Tryz.prog w' = .ok true w' := fun w' => by
        have := vn_in w' spV spV
        rw [(sameV_iff spV spV).2 rfl] at this
        exact this
      simp only [spV] at c0 c1 c2
      go_wp2
      go_ret
      exact ⟨by simp, hFq.then (Fr.alloc [] _ _)⟩

end Go.Proofs.YtkplammapbiebaaGreatDoor
/- What the statements' helpers TwinInts and LeftInts answer; numbers that came in. Conditions: fewer than 2^21 numbers. -/
namespace Go.Proofs.YtkplammapbiebaaGreatDoor
open Go.ChangeShapes Go.WideShapes Go.ChangeAt Go.RowKit Go.Lib
set_option linter.unusedVariables false
set_option linter.unusedSimpArgs false

def intsC (ns : List Int) : List Value := ns.map fun n => Value.int .i64 n
theorem intsC_length (xs : List Int) : (intsC xs).length = xs.length := by simp [intsC]
theorem intsC_get (xs : List Int) (j : Nat) (h : j < xs.length) : (intsC xs)[j]? = some (.int .i64 (xs.getD j 0)) := by simp [intsC, List.getD, h]
theorem Tryz.infoIW : (Tryz.prog.info? 3).map (fun i => (i.zero, i.size, i.bytes)) = some (some (.int .i64 0), 1, 8) := by kernel_rfl
theorem Tryz.undIsW : Tryz.prog.underlying 59 = some (.slice 3) := by kernel_rfl
theorem iown_full {w : World} {g n : Nat} {xs : List Value} (h : w.ownsRow 0 3 1 (.slice (some ⟨g, 0, none⟩) n n) n xs) : w.heap[g]? = some (.cells xs.toArray 3 (0, 0)) := by
  have hl := h.1
  rcases h.2 with ⟨hh, _⟩ | ⟨g', cap', cur, hh, _, hg, _, _, hcs, ht⟩
  · cases hh
  · cases hh
    rw [hg]
    congr 2
    rw [← Array.toList_inj]
    simp only
    rw [← ht, List.take_of_length_le (by simp [hcs])]
set_option maxHeartbeats 4000000 in
set_option maxRecDepth 100000 in
theorem twinIs_any (ao : Option Addr) (L cap : Nat) (ws : List Int) (w : World) (h : IRs w ao ws) (hLe : L = ws.length) (hL : L < 2^21) :
    Calls Tryz.prog 74 #[.slice ao L cap] w fun e w' => ∃ b, e = .returned (.slice (some ⟨b, 0, none⟩) L (L + 1)) ∧ w.heap.size ≤ b ∧ w'.heap[b]? = some (.cells (intsC (ws ++ [7777])).toArray 3 (0, 0)) ∧ Fr [] w w' := by
  obtain ⟨i0, hi, hz0, hz1, hz2⟩ := info_parts Tryz.infoIW
  have HL : Hid (L = ws.length) := hLe
  clear hLe
  go_enter Tryz.func74, Tryz.ntmps74
  go_wp2_with (at_make; refine wpList_make_own _ rfl (.const (.int .i64 0)) (.tmp 7) 59 rfl 0 3 i0 _ 1 Tryz.undIsW hi hz0 hz1 .i64 .i64 ((L : Int) + 1) (L + 1) rfl rfl ?bC ?b2 ?b3 ?b4 ?_)
  case bC => simp
  case b2 => rw [hz2]; omega
  case b3 => unfold maxLen; omega
  case b4 => exact Nat.zero_le _
  intro w1 hown hgrow
  obtain ⟨g, hg⟩ : ∃ g, g = w.heap.size := ⟨_, rfl⟩
  have hgw : w.heap.size ≤ g := by omega
  rw [← hg] at hown ⊢
  have h01 : Fr [] w w1 := Fr.grown (S := []) hgrow (by simp)
  clear hgrow hg
  go_wp2_with fail
  go_loopw [3, 4] (fun vv ii wr => ∃ i : Nat, vv = .slice (some ⟨g, 0, none⟩) i (L + 1) ∧ ii = .int .i64 i ∧ i ≤ L ∧ wr.ownsRow 0 3 1 (.slice (some ⟨g, 0, none⟩) i (L + 1)) i (intsC (ws.take i)) ∧ Fr [] w wr) (fun _ ii _ => L - (RowKit.intOf ii).toNat)
  case atStart => exact ⟨0, rfl, rfl, Nat.zero_le _, hown, h01⟩
  case round =>
    obtain ⟨i, rfl, rfl, hiL, hO, hF⟩ := hrel
    have hsz := (hO.lt g rfl).2
    by_cases hil : i < L
    · have hi' : i < ws.length := by rw [← HL.out]; exact hil
      obtain ⟨b, off, e, _, hc⟩ := (h.keep hF).lies (by omega)
      subst e
      have d0 := hc i hi'
      obtain ⟨x, hx⟩ : ∃ x, x = ws.getD i 0 := ⟨_, rfl⟩
      rw [← hx] at d0
      have HE : Hid (intsC (ws.take (i + 1)) = intsC (ws.take i) ++ [.int .i64 x]) := by
        show _ = _
        rw [itake_snoc ws i hi', ← hx]; simp [intsC]
      clear hc hx
      go_wp2_with (at_builtin; refine wpList_append_fits _ rfl (.tmp 15) (.tmp 20) 59 rfl 0 3 i0 1 Tryz.undIsW hi hz1 g i (L + 1) _ rfl (hO.alloc _) ⟨wr.heap.size, 0, none⟩ 1 1 [.int .i64 x] rfl rfl ?c1 ?c2 ?c3 ?_)
      case c1 => intro j u hj; match j, hj with | 0, hj => simp at hj; subst hj; simp [Addr.add]
      case c2 => intro u hu; simp at hu; subst hu; rfl
      case c3 => omega
      intro w2 hO2 hg2
      rw [← HE.out] at hO2
      have hF2 : Fr [] w w2 := (hF.then (Fr.alloc [] wr _)).on (Fr.grown (S := [g]) hg2 (by intro k hk _; cases hk; simp)) (by intro y hy; simp at hy; omega)
      clear hO hg2 hF d0
      go_wp2
      go_roundw
      case rel => exact ⟨i + 1, rfl, by simp, by omega, hO2, hF2⟩
      case measure => simp [RowKit.intOf]; omega
    · have hiL' : L ≤ i := by omega
      obtain rfl : i = L := by omega
      have HE : Hid (intsC (ws ++ [7777]) = intsC (ws.take i) ++ [.int .i64 7777]) := by
        show _ = _
        rw [List.take_of_length_le (by rw [← HL.out]; omega)]; simp [intsC]
      go_wp2_with (at_builtin; refine wpList_append_fits _ rfl (.tmp 22) (.tmp 23) 59 rfl 0 3 i0 1 Tryz.undIsW hi hz1 g i (i + 1) _ rfl (hO.alloc _) ⟨wr.heap.size, 0, none⟩ 1 1 [.int .i64 7777] rfl rfl ?c1 ?c2 ?c3 ?_)
      case c1 => intro j u hj; match j, hj with | 0, hj => simp at hj; subst hj; simp [Addr.add]
      case c2 => intro u hu; simp at hu; subst hu; rfl
      case c3 => omega
      intro w2 hO2 hg2
      rw [← HE.out] at hO2
      have hF2 : Fr [] w w2 := (hF.then (Fr.alloc [] wr _)).on (Fr.grown (S := [g]) hg2 (by intro k hk _; cases hk; simp)) (by intro y hy; simp at hy; omega)
      have HRow : Hid (w2.heap[g]? = some (.cells (intsC (ws ++ [7777])).toArray 3 (0, 0))) := iown_full hO2
      clear hO hg2 hF hO2
      go_wp2
      go_ret
      exact ⟨g, rfl, hgw, HRow.out, hF2⟩
set_option maxHeartbeats 4000000 in
set_option maxRecDepth 100000 in
theorem leftIs_any (t : Nat) (ao : Option Addr) (L cap : Nat) (ws : List Int) (w : World) (h : IRs w ao ws) (hLe : L = ws.length) (hL : L < 2^21) (hrow : w.heap[t]? = some (.cells (intsC (ws ++ [7777])).toArray 3 (0, 0))) :
    Calls Tryz.prog 76 #[.slice (some ⟨t, 0, none⟩) L (L + 1), .slice ao L cap] w fun e w' => e = .returned (.bool true) ∧ Fr [] w w' := by
  have HL : Hid (L = ws.length) := hLe
  clear hLe
  have hct : ∀ j, j < L → w.cell? ⟨t, j, none⟩ = some (.int .i64 (ws.getD j 0)) := by
    intro j hj
    rw [cell_of_row _ _ _ _ _ _ hrow, List.getElem?_toArray, intsC_get _ _ (by rw [List.length_append, ← HL.out]; simp; omega)]
    have e : (ws ++ [7777]).getD j 0 = ws.getD j 0 := by simp [List.getD, List.getElem?_append_left (show j < ws.length by rw [← HL.out]; exact hj)]
    rw [e]
  have hsp : w.cell? ⟨t, L, none⟩ = some (.int .i64 7777) := by
    rw [cell_of_row _ _ _ _ _ _ hrow, List.getElem?_toArray, intsC_get _ _ (by rw [List.length_append, ← HL.out]; simp)]
    have e : (ws ++ [7777]).getD L 0 = 7777 := by simp [List.getD, HL.out]
    rw [e]
  have hne : ((L : Int) != L) = false := by simp
  clear hrow
  go_enter Tryz.func76, Tryz.ntmps76
  go_wp2_with fail
  go_loopw [5] (fun ii wr => ∃ (i q : Nat), ii = .int .i64 i ∧ i ≤ L ∧ Hid (wr = w.drewN q)) (fun ii _ => L - (RowKit.intOf ii).toNat)
  case atStart => exact ⟨0, 0, rfl, Nat.zero_le _, rfl⟩
  case round =>
    obtain ⟨i, q, rfl, hiL, HQ⟩ := hrel
    have hce : ∀ a, wr.cell? a = w.cell? a := fun a => by rw [HQ.out]; rfl
    by_cases hi : i < L
    · have hi' : i < ws.length := by rw [← HL.out]; exact hi
      obtain ⟨b, off, e, _, hc⟩ := h.lies (by omega)
      subst e
      have c0 := hct i hi
      have d0 := hc i hi'
      obtain ⟨x, hxx⟩ : ∃ x, x = ws.getD i 0 := ⟨_, rfl⟩
      rw [← hxx, ← hce] at c0 d0
      clear hxx hct hc hsp hce
      have hq : (x != x) = false := by simp
      go_wp2_with fail
      go_quiet (fail)
      go_wp2
      go_roundw
      case rel => exact ⟨i + 1, q + nq, by simp, by omega, by show _ = _; rw [HQ.out]; simp⟩
      case measure => simp [RowKit.intOf]; omega
    · have hiL' : L ≤ i := by omega
      have c0 := hsp
      rw [← hce] at c0
      have hFq : Fr [] w wr := by rw [HQ.out]; exact Fr.drewN _ _ _
      clear hct hce hsp
      go_wp2
      go_ret
      exact ⟨by simp, hFq⟩
theorem IRs.of_open {w : World} {a : Addr} {len cap : Nat} {zs : List Int} (hl : len ≤ cap) (hz : zs.length = cap) (hc : ∀ i, i < zs.length → w.cell? (a.add i) = some (.int .i64 (zs.getD i 0))) (hb : len ≤ 17592186044416) : IRs w (some a) (zs.take len) := by
  refine ⟨fun h0 => ?_, by simp; omega⟩
  rw [List.length_take] at h0
  obtain ⟨b, off, spot⟩ := a
  have hspot : spot = none := by simpa [Addr.add] using World.cell?_spot (hc 0 (by omega))
  subst hspot
  refine ⟨b, off, rfl, ?_, fun j hj => ?_⟩
  · have := World.block_lt_of_cell? w _ (hc 0 (by omega))
    simpa [Addr.add] using this
  · rw [List.length_take] at hj
    have h1 := hc j (by omega)
    rw [show (⟨b, off, none⟩ : Addr).add j = ⟨b, off + j, none⟩ from by simp [Addr.add]] at h1
    rw [h1]
    congr 2
    simp only [List.getD]
    rw [List.getElem?_take_of_lt (by omega)]
end Go.Proofs.YtkplammapbiebaaGreatDoor
