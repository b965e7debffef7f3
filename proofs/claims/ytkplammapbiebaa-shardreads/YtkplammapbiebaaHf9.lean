/- A shard of what goes of some parts: contract of filled; how great parts are: contract of size. Conditions as each names them. -/
import Derived.Test.YtkplammapbiebaaHi9
namespace Go.Proofs.Ytkplammapbiebaa
open Go.ChangeShapes Go.WideShapes Go.ChangeAt Go.RowKit Go.Lib Go.Maps
set_option linter.unusedVariables false
set_option linter.unusedSimpArgs false

/-- A row of parts of its own. -/
structure POut (w w' : World) (ro : Option Addr) (N rc : Nat) (ps : List Pt) : Prop where
  len : N = ps.length
  row : w'.ownsRow w.heap.size 32 4 (.slice ro N rc) N (ptsC ps)
theorem Try.infoPt : (Try.prog.info? 32).map (fun i => (i.zero, i.size, i.bytes)) = some (some (.agg #[.int .i64 0, .string ⟨#[]⟩, .string ⟨#[]⟩, .bool false]), 4, 48) := by kernel_rfl
theorem infoPt_parts : ∃ i, Try.prog.info? 32 = some i ∧ i.zero = some (.agg #[.int .i64 0, .string ⟨#[]⟩, .string ⟨#[]⟩, .bool false]) ∧ i.size = 4 ∧ i.bytes = 48 := by
  have h := Try.infoPt
  cases hi : Try.prog.info? 32 with
  | none => rw [hi] at h; cases h
  | some i =>
    rw [hi] at h
    simp only [Option.map_some, Option.some.injEq, Prod.mk.injEq] at h
    exact ⟨i, rfl, h.1, h.2.1, h.2.2⟩
/-- One part more. -/
theorem wpList_appP (w0 w : World) {ops : Array Oper} {rest : List Oper} {o : Oper} {a : Act} {Q : Exit → Act → World → Prop} (hgd : o.guard = none) (s x : Operand)
    (ho : o.op = .call { callee := .builtin .append, args := #[s, x], argTypes := #[22, 22] })
    (so : Option Addr) (N c : Nat) (ss : List Pt) (hs : a.eval s = .slice so N c) (hK : POut w0 w so N c ss) (hN : N < 1099511627776) (h0 : w0.heap.size ≤ w.heap.size) (p : Pt) (hx : a.eval x = .slice (some ⟨w.heap.size, 0, none⟩) 1 1)
    (h : ∀ so' c' w', POut w0 w' so' (N + 1) c' (ss ++ [p]) → Fr (Value.slice so N c).ownBlock.toList w w' → wpList Try.prog ops Q rest (a.put o.dst (.slice so' (N + 1) c')) w') : wpList Try.prog ops Q (o :: rest) a (w.alloc (.cells #[.int .i64 p.num, .string p.key, .string p.val, .bool p.drop] 32)) := by
  obtain ⟨i0, hi, hz0, hz1, hz2⟩ := infoPt_parts
  have hmx : 2199023255552 ≤ maxLen := by unfold maxLen; omega
  refine wpList_append_own (w.alloc (.cells #[.int .i64 p.num, .string p.key, .string p.val, .bool p.drop] 32)) hgd s x 22 ho w0.heap.size 32 i0 _ 4 48 Try.undParts' hi hz0 hz1 hz2 rfl (by decide) (.slice so N c) N (ptsC ss) hs (owns_keepB hK.row (Fr.alloc [] w _) (by simp)) ⟨w.heap.size, 0, none⟩ 1 1 (ptC p) hx rfl ?_ (by intro u hu; exact ptsC_oneCell [p] u (by simpa [ptsC] using hu)) (by omega) (by omega) (by simp; omega) ?_
  · intro j u hu
    have hr := heap_alloc_new w (.cells #[.int .i64 p.num, .string p.key, .string p.val, .bool p.drop] 32)
    rw [Addr.add_lit, cell_of_row _ _ _ _ _ _ hr, Nat.zero_add]
    simpa [ptC] using hu
  · intro v' w' hown' hg' _
    obtain ⟨bo, cap', rfl⟩ : ∃ bo cap', v' = .slice bo (N + 1) cap' := by
      rcases hown'.2 with ⟨_, h1⟩ | ⟨g, cap, _, rfl, _⟩
      · omega
      · exact ⟨_, cap, rfl⟩
    have hst : ptsC (ss ++ [p]) = ptsC ss ++ ptC p := by rw [ptsC_append]; simp [ptsC]
    rw [← hst] at hown'
    refine h bo cap' w' ⟨by rw [hK.len]; simp, hown'⟩ ?_
    exact ((Fr.alloc [] w _).mono (by simp)).then (Fr.grown (S := (Value.slice so N c).ownBlock.toList) hg' (fun y hy _ => Option.mem_toList.2 hy))
theorem POut.keepFrS {w w1 w2 w0 : World} {b : Nat} {ro : Option Addr} {N rc : Nat} {ps : List Pt} (h : POut w w1 ro N rc ps) (hf : FrS w0 b w1 w2) (hb : ∃ es c, w1.heap[b]? = some (.map es c)) : POut w w2 ro N rc ps := by
  refine ⟨h.len, h.row.1, ?_⟩
  rcases h.row.2 with h0 | ⟨g, cap, cur, hv, hbs, hg, hr⟩
  · exact Or.inl h0
  · exact Or.inr ⟨g, cap, cur, hv, hbs, hf.keep hg hb (by decide), hr⟩
theorem POut.keep {w w1 w2 : World} {ro : Option Addr} {N rc : Nat} {ps : List Pt} (h : POut w w1 ro N rc ps) (hf : Fr [] w1 w2) : POut w w2 ro N rc ps := ⟨h.len, owns_keepB h.row hf (by simp)⟩
theorem POut.rs {w w1 : World} {ro : Option Addr} {N rc : Nat} {ps : List Pt} (h : POut w w1 ro N rc ps) (hl : ps.length ≤ 4398046511104) (he : ∀ x ∈ ps, PEach x) : PRs w1 ro ps := PRs.of_own h.row h.len hl he
/-- What filled leaves. -/
structure Fil (w w' : World) (sb b n : Nat) (M : ByteArray → List Vn) (ro : Option Addr) (N rc : Nat) (ps ins : List Pt) : Prop where
  sh : Sh w w' sb b n M
  fr : Fr [] w w'
  row : POut w w' ro N rc ins
  goes : Goes ps ins
  holds : HoldsP M ins
set_option maxHeartbeats 8000000 in
set_option maxRecDepth 100000 in
theorem filled_any (ao : Option Addr) (L cap : Nat) (ps : List Pt) (w : World) (hP : PRs w ao ps) (hL : L = ps.length) :
    Calls Try.prog 10 #[.slice ao L cap] w fun e w' => ∃ sb b M ro N rc ins, e = .returned (.tuple #[.pointer (some ⟨sb, 0, none⟩), .slice ro N rc]) ∧ Fil w w' sb b 200 M ro N rc (ps.take 200) ins := by
  have HP : Hid (∀ W, Fr [] w W → PRs W ao ps) := fun W hf => hP.keep hf
  have HL : Hid (L = ps.length) := hL
  have hLL : L ≤ 4398046511104 := by have := hP.few; omega
  clear hP hL
  go_enter Try.func10, Try.ntmps10
  go_wp2_with fail
  refine (hnew_any w).mono ?_
  rintro e w1 ⟨sb, b, rfl, hS1, hF1⟩
  have HI0 : Hid (Fil w w1 sb b 0 (fun _ => []) none 0 0 (ps.take 0) []) := ⟨hS1, hF1, ⟨rfl, ⟨rfl, .inl ⟨rfl, rfl⟩⟩⟩, Goes.nil, HoldsP.nil⟩
  clear hS1 hF1
  go_wp2_with fail
  go_loopw [5, 6] (fun ll ii wr => ∃ (i : Nat) (M : ByteArray → List Vn) (ro : Option Addr) (N rc : Nat) (ins : List Pt), ll = .slice ro N rc ∧ ii = .int .i64 i ∧ i ≤ L ∧ i ≤ 200 ∧ N ≤ i ∧ Hid (Fil w wr sb b i M ro N rc (ps.take i) ins)) (fun _ ii _ => L - (RowKit.intOf ii).toNat)
  case atStart => exact ⟨0, _, none, 0, 0, [], rfl, rfl, Nat.zero_le _, Nat.zero_le _, Nat.le_refl _, HI0⟩
  case round =>
    obtain ⟨i, M, ro, N, rc, ins, rfl, rfl, hiL, hi2, hNi, HI⟩ := hrel
    by_cases hi : i < L
    · by_cases hi3 : i < 200
      · have hi' : i < ps.length := by rw [← HL.out]; exact hi
        have hPr := HP.out _ HI.out.fr
        obtain ⟨pb, off, rfl, hpb, hat⟩ := hPr.lies (by omega)
        have HC : Hid (∀ W, Fr [] w W → PAt W pb (off + i * 4) (ps.getD i Pt.zero)) := fun W hf => by
          obtain ⟨pb', off', e, _, hat'⟩ := (HP.out W hf).lies (by omega)
          cases e
          exact hat' i hi'
        have HEa : Hid (PEach (ps.getD i Pt.zero)) := hPr.each _ (pgetD_mem ps i hi')
        have HSn : Hid (ps.take (i + 1) = ps.take i ++ [ps.getD i Pt.zero]) := ptake_snoc ps i hi'
        obtain ⟨p, hp⟩ : ∃ p, p = ps.getD i Pt.zero := ⟨_, rfl⟩
        rw [← hp] at HC HEa HSn
        clear hp hPr hat hpb
        obtain ⟨num, key, val, drop⟩ := p
        obtain ⟨c0, c1, c2, c3⟩ := HC.out _ HI.out.fr
        simp only at c0 c1 c2 c3
        have hsz0 : w.heap.size ≤ wr.heap.size := HI.out.fr.size
        have HIn : Hid (∀ W, Fr [] wr W → Calls Try.prog 22 #[.pointer (some ⟨sb, 0, none⟩), .int .i64 num, .agg #[.string key, .string val, .bool drop]] W fun e w' => ∃ (ok : Bool) (c : Nat) (M' : ByteArray → List Vn), e = .returned (.tuple #[.bool ok, .int .i64 (c : Int)]) ∧ (w'.cell? ⟨pb, off + i * 4, none⟩ = some (.int .i64 num) ∧ w'.cell? ⟨pb, off + i * 4 + 1, none⟩ = some (.string key) ∧ w'.cell? ⟨pb, off + i * 4 + 2, none⟩ = some (.string val) ∧ w'.cell? ⟨pb, off + i * 4 + 3, none⟩ = some (.bool drop)) ∧ InTold M ⟨num, key, val, drop⟩ M' ok c ∧ Sh w w' sb b (i + 1) M' ∧ Fr [] w w' ∧ POut w w' ro N rc ins) := by
          intro W hW
          refine (hinstall_any num key val drop W (HI.out.sh.keep hW) (HI.out.fr.then hW).size HEa.out (by omega)).mono ?_
          rintro e w' ⟨ok, c, M', rfl, h1, h2, h3⟩
          have hf : Fr [] w w' := h3.below HI.out.sh.bn (HI.out.fr.then hW)
          obtain ⟨d0, d1, d2, d3⟩ := HC.out w' hf
          exact ⟨ok, c, M', rfl, ⟨d0, d1, d2, d3⟩, h1, h2, hf, (HI.out.row.keep hW).keepFrS h3 (HI.out.sh.keep hW).mb⟩
        go_wp2_with fail
        go_region_held3 (fun W => W.cell? ⟨pb, off + i * 4, none⟩ = some (.int .i64 num) ∧ W.cell? ⟨pb, off + i * 4 + 1, none⟩ = some (.string key) ∧ W.cell? ⟨pb, off + i * 4 + 2, none⟩ = some (.string val) ∧ W.cell? ⟨pb, off + i * 4 + 3, none⟩ = some (.bool drop)) (go_keep)
          (first | (go_at_call 22; with_reducible refine (HIn.out _ (Fr.drew _ _)).mono ?_; rintro e w2 ⟨ok, c, M', rfl, ⟨d0, d1, d2, d3⟩, hT, hS2, hF2, hR2⟩))
        have hstep := HI.out.holds.step hT
        have HB : Hid (Sh w w2 sb b (i + 1) M' ∧ Fr [] w w2 ∧ POut w w2 ro N rc ins) := ⟨hS2, hF2, hR2⟩
        have hsz2 : w.heap.size ≤ w2.heap.size := hF2.size
        clear hS2 hF2 hR2 hT
        rcases hstep with ⟨rfl, rfl, hH, hok, hdis⟩ | ⟨rfl, hH, hno⟩
        · have HG : Hid (Goes (ps.take (i + 1)) (ins ++ [⟨num, key, val, drop⟩]) ∧ HoldsP M' (ins ++ [⟨num, key, val, drop⟩])) := ⟨by rw [HSn.out]; exact Goes.inn HI.out.goes hok hdis, hH⟩
          clear hH hok hdis HI
          go_wp2_with (first
            | (at_builtin; refine wpList_appP w w2 rfl _ _ rfl ro N rc ins rfl HB.out.2.2 (by omega) hsz2 ⟨num, key, val, drop⟩ rfl ?_
               intro ro' rc' w3 hO3 hF3
               have HI3 : Hid (Fil w w3 sb b (i + 1) M' ro' (N + 1) rc' (ps.take (i + 1)) (ins ++ [⟨num, key, val, drop⟩])) := by
                 refine ⟨HB.out.1.keepS hF3 ?_ ?_, HB.out.2.1.on hF3 (fun x hx => (owns_cells HB.out.2.2.row (Option.mem_toList.1 hx)).1), hO3, HG.out.1, HG.out.2⟩
                 · intro hm
                   obtain ⟨_, cur, e⟩ := owns_cells HB.out.2.2.row (Option.mem_toList.1 hm)
                   rw [HB.out.1.box] at e
                   simp only [Option.some.injEq, Obj.cells.injEq] at e
                   exact absurd e.2.1 (by decide)
                 · intro j hj hm
                   obtain ⟨_, cur, e⟩ := owns_cells HB.out.2.2.row (Option.mem_toList.1 hj)
                   rcases hm with e2 | ⟨_, cur2, e2⟩
                   · obtain ⟨es, cc, e3⟩ := HB.out.1.mb
                     rw [e2, e3] at e
                     cases e
                   · rw [e2] at e
                     simp only [Option.some.injEq, Obj.cells.injEq] at e
                     exact absurd e.2.1 (by decide)
               clear hO3 hF3
               go_frame)
            | fail)
          go_roundw
          case rel => exact ⟨i + 1, M', ro', N + 1, rc', _, rfl, by simp, by omega, by omega, by omega, HI3⟩
          case measure => simp [RowKit.intOf]; omega
        · have HI3 : Hid (Fil w w2 sb b (i + 1) M' ro N rc (ps.take (i + 1)) ins) := ⟨HB.out.1, HB.out.2.1, HB.out.2.2, by rw [HSn.out]; exact Goes.out HI.out.goes hno, hH⟩
          clear hH hno HI HB
          go_wp2_with fail
          go_roundw
          case rel => exact ⟨i + 1, M', ro, N, rc, ins, rfl, by simp, by omega, by omega, by omega, HI3⟩
          case measure => simp [RowKit.intOf]; omega
      · have h200 : i = 200 := by omega
        subst h200
        have HR : Hid (Fil w wr sb b 200 M ro N rc (ps.take 200) ins) := HI
        go_wp2
        go_ret2
        exact ⟨sb, b, M, ro, N, rc, ins, rfl, HR.out⟩
    · have hiL2 : i = L := by omega
      have HR : Hid (Fil w wr sb b 200 M ro N rc (ps.take 200) ins) := by
        have h1 := HI.out
        refine ⟨h1.sh.mono hi2, h1.fr, h1.row, ?_, h1.holds⟩
        have e1 : ps.take i = ps := List.take_of_length_le (by have := HL.out; omega)
        have e2 : ps.take 200 = ps := List.take_of_length_le (by have := HL.out; omega)
        rw [e2, ← e1]
        exact h1.goes
      clear HI hiL2
      go_wp2
      go_ret2
      exact ⟨sb, b, M, ro, N, rc, ins, rfl, HR.out⟩
end Go.Proofs.Ytkplammapbiebaa
