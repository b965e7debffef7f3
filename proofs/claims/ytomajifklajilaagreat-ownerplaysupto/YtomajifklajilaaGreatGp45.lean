/- Texts of this claim laid together, one behind the other: contracts and plain lemmas; conditions as each names them. -/
import Derived.Test.YtomajifklajilaaGreatGp44
import Derived.Test.YtomajifklajilaaGreatGp37
import Derived.Test.YtomajifklajilaaGreatGp43
/- Each call on both shards, there or not, by one word. Conditions as each names them. -/
namespace Go.Proofs.YtomajifklajilaaGreat
open Go.ChangeShapes Go.WideShapes Go.ChangeAt Go.RowKit Go.Lib Go.Maps
set_option linter.unusedVariables false
set_option linter.unusedSimpArgs false
section
variable {w0 w w' : World} {n : Nat} {Own : Nat → Prop} {s r : Option Addr}
theorem pr_install (h : Pr9 w0 w s r n Own) (hn : n < 3518437208800) (num : Int) (key val : ByteArray) (drop : Bool) (hE : PEach ⟨num, key, val, drop⟩) :
    Calls Tryz.prog 60 #[.pointer s, .int .i64 num, .agg #[.string key, .string val, .bool drop]] w fun e w1 => ∃ (ok : Bool) (c : Int), e = .returned (.tuple #[.bool ok, .int .i64 c]) ∧ FrM w w1 Own ∧
      Calls Tryz.prog 34 #[.pointer r, .int .i64 num, .agg #[.string key, .string val, .bool drop]] w1 fun e w2 => e = .returned (.tuple #[.bool ok, .int .i64 c]) ∧ Nx9 w0 w w2 s r (n + 1) Own := by
  rcases h with ⟨sb, b, g, N, lc, lo, hs, rfl, rfl, h⟩ | ⟨h1, rfl, h3, h4⟩
  · have h0 : w0.heap.size ≤ w.heap.size := by have := h.sh.bn; have := h.sh.bl; omega
    refine (hinstall_any num key val drop w h.sh h0 hE (by omega)).mono ?_
    rintro e w1 ⟨ok, c, M', rfl, hI, hS1, hF1⟩
    obtain ⟨hK1, hM1⟩ := h.mid hF1
    have hs1 := hF1.size
    refine ⟨ok, _, rfl, hM1, (kinstall_any hK1 (Nat.le_trans h0 hs1) (by have := h.le; omega) num key val drop hE).mono ?_⟩
    rintro e w2 ⟨ok2, c2, N', lc', lo', gs, rfl, hI2, hK2, hN2, hKN, hRN, hF2⟩
    obtain ⟨e1, e2, e3⟩ := hI.one hI2
    subst e2 e3
    rw [e1] at hS1
    obtain ⟨Own', hL, hM2, hO⟩ := h.next hF1 hS1 hK2 (by have := h.le; omega) hF2 hKN hRN
    exact ⟨rfl, Own', Or.inl ⟨sb, b, g, N', lc', lo', gs, rfl, rfl, hL⟩, hM2, hO⟩
  · refine (hinstall_no s w h1 num key val drop).mono ?_
    rintro e w1 ⟨rfl, hF1⟩
    refine ⟨false, 2, rfl, FrM.of hF1, (kinstall_nil w1 num key val drop).mono ?_⟩
    rintro e w2 ⟨rfl, hF2⟩
    exact ⟨rfl, Own, Or.inr ⟨h1.keep (hF1.then hF2) (by simp), rfl, h3, h4⟩, FrM.of (hF1.then hF2), fun j hj => Or.inl hj⟩
theorem pr_collect (h : Pr9 w0 w s r n Own) (hn : n < 3518437208800) (k : Int) :
    Calls Tryz.prog 66 #[.pointer s, .int .i64 k] w fun e w1 => ∃ (c : Int), e = .returned (.int .i64 c) ∧ FrM w w1 Own ∧
      Calls Tryz.prog 37 #[.pointer r, .int .i64 k] w1 fun e w2 => e = .returned (.int .i64 c) ∧ Nx9 w0 w w2 s r n Own := by
  rcases h with ⟨sb, b, g, N, lc, lo, hs, rfl, rfl, h⟩ | ⟨h1, rfl, h3, h4⟩
  · have h0 : w0.heap.size ≤ w.heap.size := by have := h.sh.bn; have := h.sh.bl; omega
    refine (hcollect_any k w h.sh h0 (by omega)).mono ?_
    rintro e w1 ⟨S, rfl, hG, _, hS1, hF1⟩
    obtain ⟨hK1, hM1⟩ := h.mid hF1
    refine ⟨_, rfl, hM1, (kcollect_any hK1 k).mono ?_⟩
    rintro e w2 ⟨gs, rfl, hK2, hC, hKN, hF2⟩
    have e1 : S = goH hs k := hG.one (goH_is h.ks.ok k)
    obtain ⟨_, e2⟩ := hC.is h.ks.ok
    rw [← e2] at hS1
    obtain ⟨Own', hL, hM2, hO⟩ := h.next hF1 hS1 hK2 h.le (hF2.mono (fun x hx _ => List.mem_cons_of_mem _ hx)) hKN (fun j hj => Or.inl hj)
    exact ⟨by rw [e1], Own', Or.inl ⟨sb, b, g, N, lc, lo, gs, rfl, rfl, hL⟩, hM2, hO⟩
  · refine (hcollect_no s w h1 k).mono ?_
    rintro e w1 ⟨rfl, rfl⟩
    refine ⟨0, rfl, FrM.of (Fr.refl _ _), (kcollect_nil w k).mono ?_⟩
    rintro e w2 ⟨rfl, rfl⟩
    exact ⟨rfl, Own, Or.inr ⟨h1, rfl, h3, h4⟩, FrM.of (Fr.refl _ _), fun j hj => Or.inl hj⟩
theorem pr_get (h : Pr9 w0 w s r n Own) (key : ByteArray) (k : Int) (hk : key.size ≤ 140737488355328) : ∃ (q : ByteArray) (o : Bool),
    Calls Tryz.prog 62 #[.pointer s, .string key, .int .i64 k] w (fun e w' => e = .returned (.tuple #[.string q, .bool o]) ∧ Fr [] w w') ∧
      ∀ V, Fr [] w V → Calls Tryz.prog 35 #[.pointer r, .string key, .int .i64 k] V fun e w' => e = .returned (.tuple #[.string q, .bool o]) ∧ Fr [] V w' := by
  rcases h with ⟨sb, b, g, N, lc, lo, hs, rfl, rfl, h⟩ | ⟨h1, rfl, h3, h4⟩
  · refine ⟨(valAt (mOf hs key) k).getD noS, (valAt (mOf hs key) k).isSome, hget_any key k w h.sh hk, fun V hf => (kget_any (h.ks.keep hf) key k).mono ?_⟩
    rintro e w2 ⟨q, o, rfl, hG, hF⟩
    obtain ⟨e1, e2⟩ := hG.is h.ks.ok
    rw [e1, e2]
    exact ⟨rfl, hF⟩
  · refine ⟨⟨#[]⟩, false, (hget_no s w h1 key k).mono ?_, fun V hf => (kget_nil V key k).mono ?_⟩
    · rintro e w1 ⟨rfl, rfl⟩; exact ⟨rfl, Fr.refl _ _⟩
    · rintro e w1 ⟨rfl, rfl⟩; exact ⟨rfl, Fr.refl _ _⟩
theorem pr_scan (h : Pr9 w0 w s r n Own) (hn : n < 3518437208800) (key en : ByteArray) (k : Int) : ∃ ps : List Pr, ps.length ≤ n ∧
    (∀ V, Fr [] w V → Calls Tryz.prog 64 #[.pointer s, .string key, .string en, .int .i64 k] V fun e w' => ∃ ro N rc, e = .returned (.slice ro N rc) ∧ EOut V w' ro N rc ps ∧ Fr [] V w') ∧
      ∀ V, Fr [] w V → Calls Tryz.prog 36 #[.pointer r, .string key, .string en, .int .i64 k] V fun e w' => ∃ ro N rc, e = .returned (.slice ro N rc) ∧ EOut V w' ro N rc ps ∧ Fr [] V w' := by
  have nil : ∀ V : World, EOut V V none 0 0 [] := fun V => ⟨rfl, World.ownsRow_nil _ _ _ _⟩
  rcases h with ⟨sb, b, g, N, lc, lo, hs, rfl, rfl, h⟩ | ⟨h1, rfl, h3, h4⟩
  · refine ⟨hs.filterMap (scOf key en k), ?_, fun V hf => (hScan_any key en k V (h.sh.keep hf) (by omega)).mono ?_, fun V hf => (kscan_any (h.ks.keep hf) key en k).mono ?_⟩
    · have := List.length_filterMap_le (scOf key en k) hs
      have := h.ks.log.len
      have := h.le
      omega
    · rintro e w1 ⟨ro, R, rc, ps, rfl, hE, _, hI, hF⟩
      obtain rfl := hI.unique (scOf_is h.ks.ok key en k)
      exact ⟨ro, R, rc, rfl, hE, hF⟩
    · rintro e w1 ⟨ro, R, rc, rfl, hE, _, hF⟩
      exact ⟨ro, R, rc, rfl, hE, hF⟩
  · refine ⟨[], by simp, fun V hf => (hScan_no s V (h1.keep hf (by simp)) key en k).mono ?_, fun V hf => (kscan_nil V key en k).mono ?_⟩
    · rintro e w1 ⟨rfl, rfl⟩; exact ⟨none, 0, 0, rfl, nil _, Fr.refl _ _⟩
    · rintro e w1 ⟨rfl, rfl⟩; exact ⟨none, 0, 0, rfl, nil _, Fr.refl _ _⟩
/-- Keys with their versions, told by both sides. -/
def HSame (w w' : World) (ro : Option Addr) (N rc n : Nat) (kv : List (ByteArray × List Vn)) : Prop := ∃ hs, HOut w w' ro N rc hs ∧ HRs w' ro hs ∧ hs.map hkv = kv ∧ N ≤ n ∧ ∀ x ∈ hs, x.vs.length ≤ 131072
theorem pr_all (h : Pr9 w0 w s r n Own) (hn : n < 3518437208800) : ∃ kv,
    (∀ V, Fr [] w V → Calls Tryz.prog 49 #[.pointer s] V fun e w' => ∃ ro N rc, e = .returned (.slice ro N rc) ∧ HSame V w' ro N rc n kv ∧ Fr [] V w') ∧
      ∀ V, Fr [] w V → Calls Tryz.prog 50 #[.pointer r] V fun e w' => ∃ ro N rc hs, e = .returned (.slice ro N rc) ∧ N = hs.length ∧ HRs w' ro hs ∧ hs.map hkv = kv ∧ Fr [] V w' := by
  have nil : ∀ V : World, HOut V V none 0 0 [] := fun V => ⟨rfl, World.ownsRow_nil _ _ _ _, by simp, List.Pairwise.nil⟩
  have nil2 : ∀ V : World, HRs V none [] := fun V => ⟨fun h => by simp at h, by simp, by simp⟩
  rcases h with ⟨sb, b, g, N, lc, lo, hs, rfl, rfl, h⟩ | ⟨h1, rfl, h3, h4⟩
  · refine ⟨hs.map hkv, fun V hf => (hall_any V (h.sh.keep hf) (by omega)).mono ?_, fun V hf => (kall_any (h.ks.keep hf)).mono ?_⟩
    · rintro e w1 ⟨ro, R, rc, ps, rfl, hO, hR, hP, hF⟩
      have hl : LoOk ps := hP.ok (fun k hk => (h.ks.ok.2 _ (mOf_ne hk).choose_spec.1).1 |> fun q => by rw [(mOf_ne hk).choose_spec.2] at q; exact q) (fun k => mOf_ok h.ks.ok k)
      exact ⟨ro, R, rc, rfl, ⟨ps, hO, hO.rs hl (by omega), hP.one (mOf_pk h.ks.ok), hR, fun x hx => by have := okV_few (hl.2 x hx).2.2; omega⟩, hF⟩
    · rintro e w1 ⟨ro, rc, gs, rfl, hO, hG, hF⟩
      have hk := h.ks.ok.kv hG
      exact ⟨ro, N, rc, gs, rfl, hO.len, hO.rs hk.1 (by have := h.le; omega), hG, hF⟩
  · refine ⟨[], fun V hf => (hall_no s V (h1.keep hf (by simp))).mono ?_, fun V hf => (kall_nil V).mono ?_⟩
    · rintro e w1 ⟨rfl, rfl⟩; exact ⟨none, 0, 0, rfl, ⟨[], nil _, nil2 _, rfl, Nat.zero_le _, by simp⟩, Fr.refl _ _⟩
    · rintro e w1 ⟨rfl, rfl⟩; exact ⟨none, 0, 0, [], rfl, rfl, nil2 _, rfl, Fr.refl _ _⟩
theorem pr_dump (h : Pr9 w0 w s r n Own) (hn : n < 3518437208800) (k : Int) (ns : List Int) : ∃ kv,
    (∀ V, Fr [] w V → ∀ (bo : Option Addr) (Mn cb : Nat), IRs V bo ns → Mn = ns.length → Calls Tryz.prog 68 #[.pointer s, .int .i64 k, .slice bo Mn cb] V fun e w' => ∃ ro N rc, e = .returned (.slice ro N rc) ∧ HSame V w' ro N rc n kv ∧ Fr [] V w') ∧
      ∀ V, Fr [] w V → ∀ (bo : Option Addr) (Mn cb : Nat), IRs V bo ns → Mn = ns.length → Calls Tryz.prog 38 #[.pointer r, .int .i64 k, .slice bo Mn cb] V fun e w' => ∃ ro N rc hs, e = .returned (.slice ro N rc) ∧ N = hs.length ∧ HRs w' ro hs ∧ hs.map hkv = kv ∧ Fr [] V w' := by
  have nil : ∀ V W : World, HOut V W none 0 0 [] := fun V W => ⟨rfl, World.ownsRow_nil _ _ _ _, by simp, List.Pairwise.nil⟩
  have nil2 : ∀ V : World, HRs V none [] := fun V => ⟨fun h => by simp at h, by simp, by simp⟩
  rcases h with ⟨sb, b, g, N, lc, lo, hs, rfl, rfl, h⟩ | ⟨h1, rfl, h3, h4⟩
  · refine ⟨hs.filterMap (duOf k ns), fun V hf bo Mn cb hI hM => (hdump_any k bo Mn cb ns V (h.sh.keep hf) (by omega) hI hM).mono ?_, fun V hf bo Mn cb hI hM => (kdump_any (h.ks.keep hf) k bo Mn cb ns hI hM).mono ?_⟩
    · rintro e w1 ⟨ro, R, rc, ps, rfl, hO, hR, hP, hF⟩
      have hl : LoOk ps := hP.ok (fun k hk => (h.ks.ok.2 _ (mOf_ne hk).choose_spec.1).1 |> fun q => by rw [(mOf_ne hk).choose_spec.2] at q; exact q) (fun q => okV_sub (mOf_ok h.ks.ok q) (dmp_sub (mOf_ok h.ks.ok q) k ns))
      obtain ⟨qs, hq⟩ : ∃ qs : List Hd, qs.map hkv = hs.filterMap (duOf k ns) := ⟨(hs.filterMap (duOf k ns)).map fun p => ⟨p.1, none, 0, 0, p.2⟩, by simp [List.map_map, Function.comp_def, hkv]⟩
      exact ⟨ro, R, rc, rfl, ⟨ps, hO, hO.rs hl (by omega), by rw [← hq]; exact hP.one (duOf_is h.ks.ok k ns hq), hR, fun x hx => by have := okV_few (hl.2 x hx).2.2; omega⟩, hF⟩
    · rintro e w1 ⟨ro, R, rc, gs, rfl, hO, hR, hG, hF⟩
      exact ⟨ro, R, rc, gs, rfl, hO.len, hO.rs (by have := h.le; omega), hG, hF⟩
  · refine ⟨[], fun V hf bo Mn cb hI hM => (hdump_no s V (h1.keep hf (by simp)) k bo Mn cb).mono ?_, fun V hf bo Mn cb hI hM => (kdump_nil V k bo Mn cb).mono ?_⟩
    · rintro e w1 ⟨rfl, hF⟩; exact ⟨none, 0, 0, rfl, ⟨[], nil _ _, nil2 _, rfl, Nat.zero_le _, by simp⟩, hF⟩
    · rintro e w1 ⟨rfl, rfl⟩; exact ⟨none, 0, 0, [], rfl, rfl, nil2 _, rfl, Fr.refl _ _⟩
end
end Go.Proofs.YtomajifklajilaaGreat
/- Both owners side by side: which blocks are theirs, and what each one's calls leave of the other. Conditions as each names them. -/
namespace Go.Proofs.YtomajifklajilaaGreat
open Go.ChangeShapes Go.WideShapes Go.ChangeAt Go.RowKit Go.Lib Go.Maps
set_option linter.unusedVariables false
set_option linter.unusedSimpArgs false

/-- The document's blocks. -/
def DocB (yb : Nat) (qo : Option Addr) (yg : Nat) (lo : Option Addr) (N lc : Nat) (hs : List Hd) (j : Nat) : Prop := j = yb ∨ qb qo = some j ∨ DB yg lo N lc hs j
theorem IRs.old {w w' : World} {ao : Option Addr} {ns : List Int} (h : IRs w ao ns) (he : 0 < ns.length → ∀ a, ao = some a → w'.heap[a.block]? = w.heap[a.block]?) (hs : w.heap.size ≤ w'.heap.size) : IRs w' ao ns := by
  refine ⟨fun h0 => ?_, h.few⟩
  obtain ⟨b, off, e, hb, hc⟩ := h.lies h0
  exact ⟨b, off, e, Nat.lt_of_lt_of_le hb hs, fun i hi => by
    have q := he h0 ⟨b, off, none⟩ e
    exact (World.cell?_of_block (a := ⟨b, off + i, none⟩) q).trans (hc i hi)⟩
/-- A request that waits at the document's owner: its row came in with the law's own. -/
structure OneY (wl w : World) (x : Rv) (r : Rq) : Prop where
  is : x.q r.bs = r
  len : x.bl = r.bs.length
  row : IRs w x.bo r.bs
  old : 0 < r.bs.length → ∀ a, x.bo = some a → a.block < wl.heap.size
inductive WtY (wl w : World) : List Rv → List Rq → Prop
  | nil : WtY wl w [] []
  | cons {x : Rv} {r : Rq} {xs : List Rv} {rs : List Rq} : OneY wl w x r → WtY wl w xs rs → WtY wl w (x :: xs) (r :: rs)
theorem WtY.old {wl w w' : World} {xs : List Rv} {rs : List Rq} (h : WtY wl w xs rs) (he : ∀ j, j < wl.heap.size → w'.heap[j]? = w.heap[j]?) (hs : w.heap.size ≤ w'.heap.size) : WtY wl w' xs rs := by
  induction h with
  | nil => exact .nil
  | cons h1 _ ih => exact .cons ⟨h1.is, h1.len, h1.row.old (fun h0 a e => he _ (h1.old h0 a e)) hs, h1.old⟩ ih
theorem WtY.snoc {wl w : World} {xs : List Rv} {rs : List Rq} {x : Rv} {r : Rq} (h : WtY wl w xs rs) (hx : OneY wl w x r) : WtY wl w (xs ++ [x]) (rs ++ [r]) := by
  induction h with
  | nil => exact .cons hx .nil
  | cons h1 _ ih => exact .cons h1 ih
theorem WtY.len {wl w : World} {xs : List Rv} {rs : List Rq} (h : WtY wl w xs rs) : xs.length = rs.length := by
  induction h with
  | nil => rfl
  | cons _ _ ih => simp [ih]
/-- The document's owner beside a program's one. -/
structure Dq (wl w0 w1 w : World) (ob sb b g : Nat) (pb : Option Nat) (C : Nat) (rs : List Rq) (yb yg : Nat) (qo : Option Addr) (qn qc : Nat) (xs : List Rv) (N lc : Nat) (lo : Option Addr) (hs : List Hd) : Prop where
  y : YoM w yb (some ⟨yg, 0, none⟩) C qo qn qc xs
  k : KSh w1 w yg N lc lo hs
  wt : WtY wl w xs rs
  ap : ∀ j, OwnA ob sb b g pb w j → ¬ DocB yb qo yg lo N lc hs j
  dn : ∀ j, DocB yb qo yg lo N lc hs j → w0.heap.size ≤ j
  yy : ¬ DB yg lo N lc hs yb
  qq : ∀ k, qb qo = some k → ¬ DB yg lo N lc hs k
  lw : wl.heap.size ≤ w0.heap.size
  l1 : w1.heap.size ≤ w.heap.size
section
variable {wl w0 w1 w w' : World} {t : Nat → Prop} {ob sb b n g : Nat} {pb : Option Nat} {C : Nat} {M : ByteArray → List Vn} {rs rs' : List Rq} {yb yg : Nat} {qo : Option Addr} {qn qc : Nat} {xs : List Rv} {N lc : Nat} {lo : Option Addr} {hs : List Hd}
theorem Dq.blk (h : Dq wl w0 w1 w ob sb b g pb C rs yb yg qo qn qc xs N lc lo hs) {j : Nat} (hj : DocB yb qo yg lo N lc hs j) : ∃ cur tt, w.heap[j]? = some (.cells cur tt (0, 0)) ∧ tt ≠ 3 := by
  rcases hj with rfl | hj | rfl | hj | ⟨x, hx, hj⟩
  · exact ⟨_, _, h.y.row, by decide⟩
  · obtain ⟨cur, e⟩ := h.y.q.blk hj
    exact ⟨_, _, e, by decide⟩
  · exact ⟨_, _, h.k.box, by decide⟩
  · obtain ⟨_, cur, e⟩ := owns_cells h.k.log.row hj
    exact ⟨_, _, e, by decide⟩
  · obtain ⟨cur, e⟩ := h.k.log.ty x hx j hj
    exact ⟨_, _, e, by decide⟩
theorem Dq.lt (h : Dq wl w0 w1 w ob sb b g pb C rs yb yg qo qn qc xs N lc lo hs) {j : Nat} (hj : DocB yb qo yg lo N lc hs j) : j < w.heap.size := by
  obtain ⟨cur, tt, e, _⟩ := h.blk hj
  exact lt_of_block e
theorem OwS.lt (h : OwS w0 t w ob sb b n g pb C M rs) {j : Nat} (hj : OwnA ob sb b g pb w j) : j < w.heap.size := by
  obtain ⟨xs, hq, _⟩ := h.q
  rcases hj with rfl | rfl | rfl | rfl | hj | hj
  · exact lt_of_block hq.box
  · exact lt_of_block h.sh.box
  · exact h.sh.bl
  · obtain ⟨N, F, K, ps, hR⟩ := hq.rg
    exact lt_of_block hR.box
  · obtain ⟨N, F, K, ps, hR⟩ := hq.rg
    exact lt_of_block (hR.row j hj)
  · exact h.sh.blk9 (Or.inr (Or.inr hj))
/-- Behind a call of the program's owner. -/
theorem Dq.pro {pb' : Option Nat} {n' : Nat} {M' : ByteArray → List Vn} (h : Dq wl w0 w1 w ob sb b g pb C rs yb yg qo qn qc xs N lc lo hs) (ho : OwS w0 t w ob sb b n g pb C M rs') {t' : Nat → Prop} {rs2 : List Rq} (hO : OwS w0 t' w' ob sb b n' g pb' C M' rs2) (hF : OwF b g pb w w') (hp : ∀ k, pb' = some k → pb = some k ∨ w.heap.size ≤ k) :
    Dq wl w0 w1 w' ob sb b g pb' C rs yb yg qo qn qc xs N lc lo hs := by
  classical
  obtain ⟨S0, hf0, hm⟩ := hF
  obtain ⟨hm1, hm2⟩ := hm ho.sh.bl
  obtain ⟨S, hf, hS⟩ : ∃ S, Fr S w w' ∧ ∀ j ∈ S, OwnA ob sb b g pb w j := by
    refine ⟨S0.filter fun j => decide (j < w.heap.size), hf0.mono (fun x hx hl => List.mem_filter.2 ⟨hx, by simpa using hl⟩), fun j hj => ?_⟩
    obtain ⟨a, b⟩ := List.mem_filter.1 hj
    rcases hm1 j a (by simpa using b) with e | e | e | ⟨_, e⟩
    · exact Or.inr (Or.inr (Or.inr (Or.inl e)))
    · exact Or.inr (Or.inr (Or.inr (Or.inr (Or.inl e))))
    · exact Or.inr (Or.inr (Or.inl e))
    · exact Or.inr (Or.inr (Or.inr (Or.inr (Or.inr e))))
  have nS : ∀ j, DocB yb qo yg lo N lc hs j → j ∉ S := fun j hj hm => h.ap j (hS j hm) hj
  refine ⟨h.y.keep hf (nS yb (Or.inl rfl)) (fun k e => nS k (Or.inr (Or.inl e))), h.k.keepS hf (fun j hj hd => nS j (Or.inr (Or.inr hd)) hj), h.wt.old (fun j hj => ?_) hf.size, fun j hj hd => ?_, h.dn, h.yy, h.qq, h.lw, Nat.le_trans h.l1 hf.size⟩
  · have hj0 : j < w0.heap.size := Nat.lt_of_lt_of_le hj h.lw
    rw [hO.fr.block j hj0 (by simp), ho.fr.block j hj0 (by simp)]
  · have hl := h.lt hd
    rcases hj with e | e | e | e | e | e
    · exact h.ap j (Or.inl e) hd
    · exact h.ap j (Or.inr (Or.inl e)) hd
    · exact h.ap j (Or.inr (Or.inr (Or.inl e))) hd
    · exact h.ap j (Or.inr (Or.inr (Or.inr (Or.inl e)))) hd
    · rcases hp j e with q | q
      · exact h.ap j (Or.inr (Or.inr (Or.inr (Or.inr (Or.inl q))))) hd
      · omega
    · rcases hm2 j e with q | q
      · exact h.ap j (Or.inr (Or.inr (Or.inr (Or.inr (Or.inr q))))) hd
      · omega
theorem Dq.same (h : Dq wl w0 w1 w ob sb b g pb C rs yb yg qo qn qc xs N lc lo hs) (ho : OwS w0 t w ob sb b n g pb C M rs') (hf : Fr [] w w') : Dq wl w0 w1 w' ob sb b g pb C rs yb yg qo qn qc xs N lc lo hs := h.pro ho (ho.same hf) (OwF.of hf) (fun k e => Or.inl e)
/-- Behind a call of the document's owner. -/
theorem Dq.doc {qo' : Option Addr} {qn' qc' : Nat} {xs' : List Rv} {N' lc' : Nat} {lo' : Option Addr} {hs' : List Hd} {S : List Nat} {rs2 : List Rq} (h : Dq wl w0 w1 w ob sb b g pb C rs yb yg qo qn qc xs N lc lo hs) (ho : OwS w0 t w ob sb b n g pb C M rs') (hf : Fr S w w') (hS : ∀ j ∈ S, j < w.heap.size → DocB yb qo yg lo N lc hs j)
    (hy : YoM w' yb (some ⟨yg, 0, none⟩) C qo' qn' qc' xs') (hk : KSh w1 w' yg N' lc' lo' hs') (hwt : ∀ (he : ∀ j, j < wl.heap.size → w'.heap[j]? = w.heap[j]?), WtY wl w' xs' rs2) (hn : ∀ j, DocB yb qo' yg lo' N' lc' hs' j → DocB yb qo yg lo N lc hs j ∨ w.heap.size ≤ j) (hyy : ¬ DB yg lo' N' lc' hs' yb) (hqq : ∀ k, qb qo' = some k → ¬ DB yg lo' N' lc' hs' k) :
    OwS w0 t w' ob sb b n g pb C M rs' ∧ Dq wl w0 w1 w' ob sb b g pb C rs2 yb yg qo' qn' qc' xs' N' lc' lo' hs' := by
  have hO := ho.far hf (fun j hj hl => ⟨h.dn j (hS j hj hl), fun hA => h.ap j hA (hS j hj hl), Or.inr (h.blk (hS j hj hl))⟩)
  have hbS : b ∉ S := fun hm => h.ap b (Or.inr (Or.inr (Or.inl rfl))) (hS b hm ho.sh.bl)
  refine ⟨hO, hy, hk, hwt (fun j hj => ?_), fun j hj hd => ?_, fun j hd => ?_, hyy, hqq, h.lw, Nat.le_trans h.l1 hf.size⟩
  · have hj0 : j < w0.heap.size := Nat.lt_of_lt_of_le hj h.lw
    rw [hO.fr.block j hj0 (by simp), ho.fr.block j hj0 (by simp)]
  · have hA : OwnA ob sb b g pb w j := by
      rcases hj with e | e | e | e | e | e
      · exact Or.inl e
      · exact Or.inr (Or.inl e)
      · exact Or.inr (Or.inr (Or.inl e))
      · exact Or.inr (Or.inr (Or.inr (Or.inl e)))
      · exact Or.inr (Or.inr (Or.inr (Or.inr (Or.inl e))))
      · exact Or.inr (Or.inr (Or.inr (Or.inr (Or.inr (e.back hf hbS ho.sh.bl)))))
    rcases hn j hd with q | q
    · exact h.ap j hA q
    · have := ho.lt hA
      omega
  · rcases hn j hd with q | q
    · exact h.dn j q
    · have := ho.fr.size
      omega
end
end Go.Proofs.YtomajifklajilaaGreat
