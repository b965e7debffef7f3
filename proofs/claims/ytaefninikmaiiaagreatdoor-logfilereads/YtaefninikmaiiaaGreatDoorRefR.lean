/- The document's Read of a log: its contract. Conditions as it names them. -/
import Derived.Test.YtaefninikmaiiaaGreatDoorRef6
import Derived.Test.YtaefninikmaiiaaGreatDoorRefMore
import Derived.Test.YtaefninikmaiiaaGreatDoorAp
import Derived.Test.YtaefninikmaiiaaGreatDoorTake6
namespace Go.Proofs.YtaefninikmaiiaaGreatDoor
open Go.ChangeShapes Go.WideShapes Go.ChangeAt Go.RowKit Go.Lib
set_option linter.unusedVariables false
set_option linter.unusedSimpArgs false

theorem Rds.err {k : Nat} {xs vs : List Nat} {ls : List Tx} {c e : Nat} (h : Rds k xs ls vs c) (h0 : xs ≠ []) (he : recF xs = .error e) : ls = [] ∧ vs = xs ∧ c = e := by
  cases ls with
  | nil =>
    obtain ⟨rfl, h⟩ := h
    rcases h with ⟨h, _⟩ | ⟨_, h⟩ | ⟨_, _, t, r, h, _⟩
    · exact absurd h h0
    · rw [he] at h; cases h; exact ⟨rfl, rfl, rfl⟩
    · rw [he] at h; cases h
  | cons t r =>
    obtain ⟨ys, _, h, _⟩ := h
    rw [he] at h; cases h
theorem Rds.none {k : Nat} {vs : List Nat} {ls : List Tx} {c : Nat} (h : Rds k [] ls vs c) : ls = [] ∧ vs = [] ∧ c = 0 := Rds.nil h
theorem Rds.out {k : Nat} {xs vs ys : List Nat} {ls : List Tx} {c : Nat} {t : Tx} (h : Rds k xs ls vs c) (h0 : xs ≠ []) (hr : recF xs = .ok (t, ys)) (hn : t.n ≠ (k : Int)) : ls = [] ∧ vs = xs ∧ c = 6 := by
  cases ls with
  | nil =>
    obtain ⟨rfl, h⟩ := h
    rcases h with ⟨h, _⟩ | ⟨_, h⟩ | ⟨_, h, _⟩
    · exact absurd h h0
    · rw [hr] at h; cases h
    · exact ⟨rfl, rfl, h⟩
  | cons u r =>
    obtain ⟨zs, _, h, h1, _⟩ := h
    rw [hr] at h; cases h; exact absurd h1 hn
theorem Rds.step {k : Nat} {xs vs ys : List Nat} {ls : List Tx} {c : Nat} {t : Tx} (h : Rds k xs ls vs c) (h0 : xs ≠ []) (hr : recF xs = .ok (t, ys)) (hn : t.n = (k : Int)) : ∃ r, ls = t :: r ∧ Rds (k + 1) ys r vs c := by
  cases ls with
  | nil =>
    obtain ⟨rfl, h⟩ := h
    rcases h with ⟨h, _⟩ | ⟨_, h⟩ | ⟨_, _, u, r, h, h1⟩
    · exact absurd h h0
    · rw [hr] at h; cases h
    · rw [hr] at h; cases h; exact absurd hn h1
  | cons u r =>
    obtain ⟨zs, _, h, h1, h2⟩ := h
    rw [hr] at h; cases h; exact ⟨r, rfl, h2⟩
/-- What Read holds: the row of what it told so far. -/
structure Yr (w wr : World) (B : Nat) (v : Value) (ds : List Tm) : Prop where
  row : wr.ownsRow 0 63 2 v ds.length (tmsC ds)
  new : ∀ k, v.ownBlock = some k → w.heap.size ≤ k ∧ k ≠ B
  each : ∀ t ∈ ds, t.at wr
  off : ∀ t ∈ ds, 0 < t.ws.length → ∀ a, t.ao = some a → a.block ≠ B ∧ v.ownBlock ≠ some a.block
theorem Tm.at.keepS {S : List Nat} {t : Tm} {w w' : World} (h : t.at w) (hf : Fr S w w') (hn : 0 < t.ws.length → ∀ a, t.ao = some a → a.block ∉ S) : t.at w' := ⟨h.rs.keepS hf hn, h.len, h.n0, h.n1⟩
theorem Yr.quiet {w W W' : World} {B : Nat} {v : Value} {ds : List Tm} (h : Yr w W B v ds) (hf : Fr [] W W') : Yr w W' B v ds :=
  ⟨owns_keep h.row hf (by simp), h.new, fun t ht => (h.each t ht).keep hf, h.off⟩
theorem Yr.box {w W W' : World} {B : Nat} {v : Value} {ds : List Tm} (h : Yr w W B v ds) (hf : Fr [B] W W') : Yr w W' B v ds :=
  ⟨owns_keep h.row hf (fun k hk => by simp; exact (h.new k hk).2), h.new, fun t ht => (h.each t ht).keepS hf (fun h0 a ha => by simp; exact (h.off t ht h0 a ha).1), h.off⟩
theorem Yr.app {w W W' : World} {B g cap : Nat} {v : Value} {ds : List Tm} (h : Yr w W B v ds) (hw : w.heap.size ≤ W.heap.size) (hB : B < W.heap.size) (t : Tm) (ht : t.at W) (hoff : 0 < t.ws.length → ∀ a, t.ao = some a → a.block ≠ B ∧ v.ownBlock ≠ some a.block)
    (hown : W'.ownsRow 0 63 2 (.slice (some ⟨g, 0, none⟩) (ds.length + 1) cap) (ds.length + 1) (tmsC ds ++ [.int .i64 t.n, .slice t.ao t.L t.cap])) (hwe : Went W v g W') : Yr w W' B (.slice (some ⟨g, 0, none⟩) (ds.length + 1) cap) (ds ++ [t]) := by
  have hF := hwe.fr
  have hge : v.ownBlock = some g ∨ W.heap.size ≤ g := by rcases hwe with ⟨h1, _⟩ | ⟨h1, _⟩; · exact Or.inl h1
                                                         · exact Or.inr h1
  have hall : ∀ u ∈ ds ++ [t], u.at W ∧ (0 < u.ws.length → ∀ a, u.ao = some a → a.block ≠ B ∧ v.ownBlock ≠ some a.block) := by
    intro u hu
    rcases List.mem_append.1 hu with hu | hu
    · exact ⟨h.each u hu, h.off u hu⟩
    · simp at hu; subst hu; exact ⟨ht, hoff⟩
  refine ⟨?_, ?_, ?_, ?_⟩
  · rw [List.length_append, tmsC_append]
    exact hown
  · intro k hk
    simp [Value.ownBlock] at hk
    subst hk
    rcases hge with hge | hge
    · exact h.new g hge
    · exact ⟨by omega, by omega⟩
  · intro u hu
    refine (hall u hu).1.keepS hF (fun h0 a ha hm => ?_)
    exact ((hall u hu).2 h0 a ha).2 (by simpa using hm)
  · intro u hu h0 a ha
    refine ⟨((hall u hu).2 h0 a ha).1, fun he => ?_⟩
    simp [Value.ownBlock] at he
    rcases hge with hge | hge
    · exact ((hall u hu).2 h0 a ha).2 (by rw [hge, he])
    · obtain ⟨b, off, e, hb, _⟩ := (hall u hu).1.rs.lies h0
      rw [ha] at e
      cases e
      simp only at he
      omega
theorem Yr.trs {w W : World} {B : Nat} {ro : Option Addr} {N rc : Nat} {ds : List Tm} (h : Yr w W B (.slice ro N rc) ds) (hN : N = ds.length) (hl : ds.length ≤ 140737488355328) : TRs W ro ds := by
  refine ⟨fun h0 => ?_, hl, h.each⟩
  have hr := h.row
  obtain ⟨g, c, hh, _⟩ := own_form hr h0
  cases hh
  refine ⟨g, 0, rfl, (hr.lt g rfl).2, fun i hi => ?_⟩
  have key : ∀ c, c < 2 → W.cell? ⟨g, 0 + i * 2 + c, none⟩ = (tmC (ds.getD i Tm.zero))[c]? := by
    intro c hc
    rw [Nat.zero_add, hr.cellAt (i * 2 + c) (by omega), tmsC_get ds i c hi hc]
  exact ⟨key 0 (by omega), key 1 (by omega)⟩
theorem Tryz.infoTR : (Tryz.prog.info? 63).map (fun i => (i.zero, i.size, i.bytes)) = some (some (.agg #[.int .i64 0, .slice none 0 0]), 2, 32) := by kernel_rfl
theorem Tryz.undTsR : Tryz.prog.underlying 22 = some (.slice 63) := by kernel_rfl
theorem textF_low (xs : List Nat) : (textF 65536 xs).1.size ≤ 65536 := by
  have h0 : (⟨#[]⟩ : ByteArray).size ≤ 65536 := by decide
  unfold textF
  rw [if_neg (by omega)]
  split
  · exact h0
  · split
    · exact h0
    · split
      · exact h0
      · rename_i h1 h2 h3
        simp only
        rw [toBA_size, List.length_take]
        omega
/-- A block made behind it is written. -/
theorem Yr.fresh {w W0 W W' : World} {B X : Nat} {v : Value} {ds : List Tm} (h : Yr w W0 B v ds) (hf : Fr [] W0 W) (hX : W0.heap.size ≤ X) (hs : Fr [X] W W') : Yr w W' B v ds := by
  have h1 := h.quiet hf
  refine ⟨owns_keep h1.row hs (fun k hk => ?_), h.new, fun t ht => (h1.each t ht).keepS hs (fun h0 a ha => ?_), h.off⟩
  · have := (h.row.lt k hk).2
    simp
    omega
  · obtain ⟨b, off, e, hb, _⟩ := (h.each t ht).rs.lies h0
    rw [ha] at e
    cases e
    simp
    omega
theorem textF_drop {xs : List Nat} {s : ByteArray} {k : Nat} (h : textF 65536 xs = (s, k, 0)) : k ≤ xs.length ∧ s.size ≤ 65536 := by
  have h1 := (textF_size 65536 xs (by rw [h])).2
  have h2 := textF_low xs
  rw [h] at h1 h2
  exact ⟨h1, h2⟩
theorem fix4_size {xs : List Nat} {m k : Nat} (h : fixF 4 xs = (m, k, 0)) : k ≤ xs.length := by
  have := (fixF_size 4 xs (by rw [h])).2
  rw [h] at this
  exact this
theorem stepAt_ok (k p : Nat) : stepAt (k, 0) p = p + k := by simp [stepAt]
theorem recF_e1 {xs : List Nat} {s : ByteArray} {k e : Nat} (h : textF 65536 xs = (s, k, e)) (he : e ≠ 0) : recF xs = .error e := by
  unfold recF; rw [tk_err h he]
theorem recF_s {xs : List Nat} {s : ByteArray} {k : Nat} (h : textF 65536 xs = (s, k, 0)) : recF xs = recS s (xs.drop k) := by
  unfold recF; rw [tk_ok h rfl]
theorem recS_e {s : ByteArray} {r : List Nat} {m k e : Nat} (h : fixF 4 r = (m, k, e)) (he : e ≠ 0) : recS s r = .error e := by
  unfold recS; rw [tk_err h he]
theorem recS_s {s : ByteArray} {r : List Nat} {m k : Nat} (h : fixF 4 r = (m, k, 0)) : recS s r = recC m (strNs s) (r.drop k) := by
  unfold recS; rw [tk_ok h rfl]
theorem recC_e {m : Nat} {ys r : List Nat} (h : m ≠ crcN ys) : recC m ys r = .error 4 := by unfold recC; rw [if_neg h]
theorem recC_d {m e : Nat} {ys r : List Nat} (h : m = crcN ys) (hd : decT ys = .error e) : recC m ys r = .error e := by unfold recC; rw [if_pos h, hd]
theorem recC_ok {m n : Nat} {ws : List Wt} {ys r : List Nat} (h : m = crcN ys) (hd : decT ys = .ok (n, ws)) : recC m ys r = .ok (⟨n, ws⟩, r) := by unfold recC; rw [if_pos h, hd]

set_option maxHeartbeats 16000000 in
set_option maxRecDepth 100000 in
theorem yRead_any (ao : Option Addr) (L cap c : Nat) (xs vs : List Nat) (ls : List Tx) (w : World) (hR0 : Rs w ao xs) (hb : ∀ x ∈ xs, x < 256) (hLe : L = xs.length) (hcap : L ≤ cap) (hlen : L < 2^40) (hR : Rds 1 xs ls vs c) (N G : Nat) (hN : N = ls.length) (hG : G + vs.length = xs.length) :
    Calls Tryz.prog 20 #[.slice ao L cap] w fun e w' => ∃ ro rc, e = .returned (.tuple #[.slice ro N rc, .int .i64 (G : Int), .int .i64 (c : Int)]) ∧ ∃ ds, txs ds = ls ∧ TRs w' ro ds ∧ N = ds.length ∧ Fr [] w w' := by
  obtain ⟨iT, hiT, hzT, hsT, hbT⟩ := info_parts Tryz.infoTR
  have HL : Hid (L = xs.length) := hLe
  have HN : Hid (N = ls.length) := hN
  have HG : Hid (G + vs.length = xs.length) := hG
  have HR : Hid (Rds 1 xs ls vs c) := hR
  have HRs : Hid (∀ W, Fr [] w W → Rs W ao xs) := fun W hf => hR0.fr hf
  have HD : Hid (∀ k, ∀ x ∈ xs.drop k, x < 256) := fun k x hx => hb x (List.mem_of_mem_drop hx)
  -- how many may be told
  have hlsL : ls.length ≤ L := by
    obtain ⟨h1, h2, _⟩ := Rds.inv hb hR
    have := (encL_length (okL_mem h2)).1
    have h3 := congrArg List.length h1
    rw [List.length_append] at h3
    omega
  obtain ⟨B, HBe⟩ : ∃ B, Hid (B = w.heap.size) := ⟨_, rfl⟩
  obtain ⟨w0, HW0⟩ : ∃ w0, Hid (w.alloc (.cells #[.bool false, .slice ao L cap, .int .i64 0, .int .i64 0] 102) = w0) := ⟨_, rfl⟩
  have hF0 : Fr [] w w0 := by rw [← HW0.out]; exact Fr.alloc [] w _
  have hX0 : Bx w0 B false (.slice ao L cap) 0 0 := ⟨by rw [← HW0.out, HBe.out]; exact heap_alloc_new w _⟩
  have hBw : w.heap.size ≤ B := by rw [HBe.out]; exact Nat.le_refl _
  clear hLe hN hG hR hR0
  go_enter Tryz.func20, Tryz.ntmps20
  go_wp2_with fail
  rw [HW0.out, ← HBe.out]
  go_loopw [5, 6] (fun vv gg wr => ∃ (p N' rc : Nat) (ro : Option Addr) (ds : List Tm) (ls' : List Tx), vv = .slice ro N' rc ∧ gg = .int .i64 p ∧ p ≤ L ∧ N' ≤ L ∧ Hid (N' = ds.length) ∧ Hid (txs ds ++ ls' = ls) ∧ Hid (Rds (1 + ds.length) (xs.drop p) ls' vs c) ∧ Bx wr B false (.slice ao L cap) p 0 ∧ Hid (Yr w wr B (.slice ro N' rc) ds) ∧ Fr [] w wr) (fun _ gg _ => L - (intOf gg).toNat)
  case atStart => exact ⟨0, 0, 0, none, [], ls, rfl, rfl, Nat.zero_le _, Nat.zero_le _, rfl, rfl, HR.out, hX0, ⟨World.ownsRow_nil _ _ _ _, by intro k hk; simp [Value.ownBlock] at hk, by simp, by simp⟩, hF0⟩
  case round =>
    obtain ⟨p, N', rc, ro, ds, ls', rfl, rfl, hpL, hNL, HN', HLs, HRd, hX, HY, hFr⟩ := hrel
    -- where nothing more is told
    have HEnd : Hid (∀ W, Fr [] w W → Yr w W B (.slice ro N' rc) ds → ls' = [] → vs = xs.drop p → ∃ ds', txs ds' = ls ∧ TRs W ro ds' ∧ N' = ds'.length ∧ N' = N ∧ p = G) := by
      intro W hf hy h1 h2
      have h3 := HLs.out
      rw [h1, List.append_nil] at h3
      have h4 := congrArg List.length h3
      rw [txs_length] at h4
      have h5 := HG.out
      rw [h2, List.length_drop] at h5
      have h6 := HL.out
      have h7 := HN.out
      have h8 := HN'.out
      exact ⟨ds, h3, hy.trs HN'.out (by omega), HN'.out, by omega, by omega⟩
    have x0 := hX.c0
    have x1 := hX.c1
    have x2 := hX.c2
    have x3 := hX.c3
    have hLf := xLeft_any ao L cap p 0 wr (by omega) hpL
    obtain ⟨q, hq⟩ : ∃ q, q = L - p := ⟨_, rfl⟩
    rw [← hq] at hLf
    have HLf : Hid _ := hLf
    have Hq : Hid (q = L - p) := hq
    clear hq hLf
    by_cases hpl : p < L
    · have hq0 : (0 : Int) < (q : Int) := by have := Hq.out; omega
      have hne : xs.drop p ≠ [] := by
        intro h
        have := congrArg List.length h
        rw [List.length_drop, ← HL.out] at this
        simp at this
        omega
      have HNe : Hid (xs.drop p ≠ []) := hne
      clear hne
      go_wp2_with fail
      refine Calls.mono HLf.out ?_
      rintro e w1 ⟨rfl, hF1⟩
      have hX1 := hX.keep hF1 (by simp)
      have hG1 := hFr.then hF1
      have HY1 : Hid (Yr w w1 B (.slice ro N' rc) ds) := HY.out.quiet hF1
      have y0 := hX1.c0
      have y1 := hX1.c1
      have y2 := hX1.c2
      have y3 := hX1.c3
      obtain ⟨s, k1, e1, ht⟩ : ∃ s k1 e1, textF 65536 (xs.drop p) = (s, k1, e1) := ⟨_, _, _, rfl⟩
      have hTx := xText_live ao L cap p xs 65536 (by omega) (by omega) hcap w1 (HRs.out _ hG1) hb HL.out hpL
      rw [ht] at hTx
      simp only at hTx
      have HT : Hid (textF 65536 (xs.drop p) = (s, k1, e1)) := ht
      obtain ⟨p1, hp1⟩ : ∃ p1, p1 = stepAt (k1, e1) p := ⟨_, rfl⟩
      rw [← hp1] at hTx
      have HP1 : Hid (p1 = stepAt (k1, e1) p) := hp1
      have HTx : Hid _ := hTx
      clear ht hp1 hTx x0 x1 x2 x3 HLf hX HY
      go_wp2_with fail
      refine Calls.mono HTx.out ?_
      rintro e w2 ⟨rfl, hF2⟩
      obtain ⟨B8, HB8⟩ : ∃ B8, Hid (B8 = w2.heap.size) := ⟨_, rfl⟩
      obtain ⟨w3, HW3⟩ : ∃ w3, Hid (w2.alloc (.cells #[.bool false, .slice ao L cap, .int .i64 (p1 : Int), .int .i64 (e1 : Int)] 102) = w3) := ⟨_, rfl⟩
      have hF3 : Fr [] w1 w3 := by rw [← HW3.out]; exact hF2.then (Fr.alloc [] w2 _)
      have hF23 : Fr [] w2 w3 := by rw [← HW3.out]; exact Fr.alloc [] w2 _
      have HY2 : Hid (Yr w w2 B (.slice ro N' rc) ds) := HY1.out.quiet hF2
      have hB8w : w2.heap.size ≤ B8 := by rw [HB8.out]; exact Nat.le_refl _
      have hX8 : Bx w3 B8 false (.slice ao L cap) p1 e1 := ⟨by rw [← HW3.out, HB8.out]; exact heap_alloc_new w2 _⟩
      have hX3 := hX1.keep hF3 (by simp)
      have hG3 := hG1.then hF3
      have HY3 : Hid (Yr w w3 B (.slice ro N' rc) ds) := HY1.out.quiet hF3
      have hB8 : B < B8 := by have := hX1.lt; have := hF2.size; rw [HB8.out]; omega
      clear y0 y1 y2 y3 HTx hF2 HY1 hX1 hG1 hF3
      have z0 := hX8.c0
      have z1 := hX8.c1
      have z2 := hX8.c2
      have z3 := hX8.c3
      go_upto_region 6 with fail
      rw [HW3.out, ← HB8.out]
      by_cases he1 : e1 = 0
      · subst he1
        have hk1 := textF_drop HT.out
        have hkl : k1 ≤ L - p := by have := hk1.1; rw [List.length_drop, ← HL.out] at this; exact this
        have hss := hk1.2
        have HP1' : Hid (p1 = p + k1) := by show _ = _; rw [HP1.out, stepAt_ok]
        have hp1L : p1 ≤ L := by rw [HP1'.out]; omega
        rw [show ((0 : Nat) : Int) = 0 from rfl] at z3 hX8
        clear hk1
        -- the sum's four bytes
        have hG1b : Fr [] w w3 := hG3
        obtain ⟨m, k2, e2, hf4⟩ : ∃ m k2 e2, fixF 4 (xs.drop p1) = (m, k2, e2) := ⟨_, _, _, rfl⟩
        have hFx := xFixed_live ao L cap p1 xs 4 w3 (HRs.out _ hG3) hb HL.out hp1L
        rw [hf4] at hFx
        simp only at hFx
        have HF4 : Hid (fixF 4 (xs.drop p1) = (m, k2, e2)) := hf4
        obtain ⟨p2, hp2⟩ : ∃ p2, p2 = stepAt (k2, e2) p1 := ⟨_, rfl⟩
        rw [← hp2] at hFx
        have HP2 : Hid (p2 = stepAt (k2, e2) p1) := hp2
        have HFx : Hid _ := hFx
        have HDrop : Hid ((xs.drop p).drop k1 = xs.drop p1) := by show _ = _; rw [List.drop_drop, HP1'.out]
        clear hf4 hp2 hFx
        go_wp2_with fail
        refine Calls.mono HFx.out ?_
        rintro e w4 ⟨rfl, hF4⟩
        have hX84 := hX8.keep hF4 (by simp)
        have f0 := hX84.f 0
        have f1 := hX84.f 1
        have f2 := hX84.f 2
        have f3 := hX84.f 3
        have v0 := hX84.c0
        have v1 := hX84.c1
        have v2 := hX84.c2
        have v3 := hX84.c3
        obtain ⟨w5, HW5⟩ : ∃ w5, Hid ((((w4.setCell ⟨B8, 0, none⟩ (.bool false)).setCell ⟨B8, 1, none⟩ (.slice ao L cap)).setCell ⟨B8, 2, none⟩ (.int .i64 (p2 : Int))).setCell ⟨B8, 3, none⟩ (.int .i64 (e2 : Int)) = w5) := ⟨_, rfl⟩
        have hX85 : Bx w5 B8 false (.slice ao L cap) p2 e2 := by rw [← HW5.out]; exact hX84.set false _ _ _
        have hF5 : Fr [B8] w4 w5 := by rw [← HW5.out]; exact Fr.sets4 _ _ _ _ _ _
        have hwB8 : w.heap.size ≤ B8 := by omega
        have hG5 : Fr [] w w5 := (hG3.then hF4).on hF5 (by intro x hx; simp at hx; omega)
        have hX5 : Bx w5 B false (.slice ao L cap) p 0 := (hX3.keep hF4 (by simp)).keep hF5 (by simp; omega)
        have HY5 : Hid (Yr w w5 B (.slice ro N' rc) ds) := HY2.out.fresh (hF23.then hF4) hB8w hF5
        have c83 := hX85.c3
        go_upto_region 9 with fail
        rw [HW5.out]
        clear v0 v1 v2 v3 z0 z1 z2 z3 HFx hX84 hF5 f0 f1 f2 f3 HW5 HY2 HY3 hF23 hX8 hX3 hG3
        by_cases he2 : e2 = 0
        · subst he2
          have hkl2 : k2 ≤ L - p1 := by have := fix4_size HF4.out; rw [List.length_drop, ← HL.out] at this; exact this
          have HP2' : Hid (p2 = p1 + k2) := by show _ = _; rw [HP2.out, stepAt_ok]
          have hp2L : p2 ≤ L := by rw [HP2'.out]; omega
          rw [show ((0 : Nat) : Int) = 0 from rfl] at c83 hX85
          have hml : m < 18446744073709551616 := by
            have h1 := HF4.out
            have h2 := fix4_inv (HD.out p1) (c := m) (r := (xs.drop p1).drop k2) (by rw [tk_ok h1 rfl])
            have := h2.2
            omega
          have hrecS : recF (xs.drop p) = recC m (strNs s) (xs.drop p2) := by
            rw [recF_s HT.out, HDrop.out, recS_s HF4.out, List.drop_drop, HP2'.out]
          have HRec : Hid (recF (xs.drop p) = recC m (strNs s) (xs.drop p2)) := hrecS
          obtain ⟨cs, w6, hcv, hA6, hF6⟩ := conv_bytes s w5 (by omega)
          have hG6 := hG5.then hF6
          have hX86 := hX85.keep hF6 (by simp)
          have hX6 := hX5.keep hF6 (by simp)
          have HY6 : Hid (Yr w w6 B (.slice ro N' rc) ds) := HY5.out.quiet hF6
          have HA6 : Hid (BArg w6 (some ⟨w5.heap.size, 0, none⟩) s.size cs (strNs s)) := hA6
          obtain ⟨mc, hmc⟩ : ∃ mc, more 0 (strNs s) = mc := ⟨_, rfl⟩
          have HMc : Hid (crcN (strNs s) = mc) := hmc
          have hmcl : mc < 4294967296 := by rw [← HMc.out]; exact crcN_lt _
          obtain ⟨S, HS⟩ : ∃ S, Hid (S = s.size) := ⟨_, rfl⟩
          have hSb : S ≤ 65536 := by rw [HS.out]; exact hss
          obtain ⟨BA, HBA⟩ : ∃ BA, Hid (BA = w5.heap.size) := ⟨_, rfl⟩
          have HA6' : Hid (BArg w6 (some ⟨BA, 0, none⟩) S cs (strNs s)) := by rw [HBA.out, HS.out]; exact HA6.out
          have hcv' : Sem.run Tryz.prog (convert 9 26 (.string s)) w5 = .ok (.slice (some ⟨BA, 0, none⟩) S cs) w6 := by rw [HBA.out, HS.out]; exact hcv
          have hCr := refCrc_any mc (some ⟨BA, 0, none⟩) S cs (strNs s) w6 HA6'.out HMc.out
          have HCr : Hid _ := hCr
          clear hcv hA6 HA6 hmc hrecS hCr HY5 hX5 hX85
          go_wp2_with fail
          refine Calls.mono HCr.out ?_
          rintro e w7 ⟨rfl, hF7⟩
          have hG7 := hG6.then hF7
          have hX87 := hX86.keep hF7 (by simp)
          have hX7 := hX6.keep hF7 (by simp)
          have HY7 : Hid (Yr w w7 B (.slice ro N' rc) ds) := HY6.out.quiet hF7
          have HA7 : Hid (BArg w7 (some ⟨BA, 0, none⟩) S cs (strNs s)) := HA6'.out.keep hF7
          clear HCr hcv' HA6' hF7 HY6 hX86 hX6 hG6
          by_cases hmm : m = mc
          · have hmi : ((m : Int) != (mc : Int)) = false := by rw [hmm]; simp
            have HMM : Hid (m = crcN (strNs s)) := by show _ = _; rw [HMc.out]; exact hmm
            have HDc : Hid _ := xDecode_any (some ⟨BA, 0, none⟩) S cs (strNs s) w7 (HA7.out.rs (by omega)) HA7.out.low HA7.out.len HA7.out.fits
            clear hmm
            go_wp2_with fail
            refine Calls.mono HDc.out ?_
            rintro e w8 ⟨hDA, hF8⟩
            have hG8 := hG7.then hF8
            have hX88 := hX87.keep hF8 (by simp)
            have hX8' := hX7.keep hF8 (by simp)
            have HY8 : Hid (Yr w w8 B (.slice ro N' rc) ds) := HY7.out.quiet hF8
            have hs78 := hF8.size
            have hY7l : ∀ k, (Value.slice ro N' rc).ownBlock = some k → k < w7.heap.size := fun k hk => (HY7.out.row.lt k hk).2
            have hB7l := hX7.lt
            clear HDc HA7 hF8 hG7 hX87 hX7 HY7
            unfold DecAns at hDA
            cases hdt : decT (strNs s) with
            | error ed =>
              rw [hdt] at hDA
              simp only at hDA
              subst hDA
              have hed : ed ≠ 0 := decT_code hdt
              have hen : ((ed : Int) != 0) = true := by rw [bne_iff_ne]; omega
              obtain ⟨q1, q2, q3⟩ := Rds.err HRd.out HNe.out (by rw [HRec.out]; exact recC_d HMM.out hdt)
              obtain ⟨ds', h1, h2, h3, h4, h5⟩ := HEnd.out _ hG8 HY8.out q1 q2
              have HE : Hid (txs ds' = ls ∧ TRs w8 ro ds' ∧ N = ds'.length) := ⟨h1, h2, by omega⟩
              subst h4 h5 q3
              clear h1 h2 h3 HEnd hdt hed
              go_wp2
              go_ret3
              exact ⟨ro, rc, rfl, ds', HE.out.1, HE.out.2.1.keep (Fr.alloc [] _ _), HE.out.2.2, hG8.then (Fr.alloc [] _ _)⟩
            | ok pr =>
              obtain ⟨n, ws⟩ := pr
              rw [hdt] at hDA
              simp only at hDA
              obtain ⟨xo, M, cm, hM, rfl, hWR, hxn⟩ := hDA
              have hrok := recC_ok (r := xs.drop p2) HMM.out hdt
              rw [← HRec.out] at hrok
              have HRok : Hid (recF (xs.drop p) = .ok (⟨n, ws⟩, xs.drop p2)) := hrok
              have hokT := (recF_inv (HD.out p) hrok).2
              have hnb : n ≤ 65536 := by have := hokT.2.1; simp only at this; omega
              obtain ⟨w9, HW9⟩ : ∃ w9, Hid (w8.alloc (.cells #[.int .i64 (n : Int), .slice xo M cm] 63) = w9) := ⟨_, rfl⟩
              obtain ⟨B12, HB12⟩ : ∃ B12, Hid (B12 = w8.heap.size) := ⟨_, rfl⟩
              have hF9 : Fr [] w8 w9 := by rw [← HW9.out]; exact Fr.alloc [] w8 _
              have hbx : w9.heap[B12]? = some (.cells #[.int .i64 (n : Int), .slice xo M cm] 63 (0, 0)) := by rw [← HW9.out, HB12.out]; exact heap_alloc_new w8 _
              have hG9 := hG8.then hF9
              have hX89 := hX88.keep hF9 (by simp)
              have hX9 := hX8'.keep hF9 (by simp)
              have HY9 : Hid (Yr w w9 B (.slice ro N' rc) ds) := HY8.out.quiet hF9
              have hTm : (⟨n, xo, M, cm, ws⟩ : Tm).at w9 := ⟨hWR.keep hF9, hM, by simp only; omega, by simp only; omega⟩
              have HTm : Hid ((⟨n, xo, M, cm, ws⟩ : Tm).at w9) := hTm
              have HOff : Hid (0 < ws.length → ∀ a, xo = some a → a.block ≠ B ∧ (Value.slice ro N' rc).ownBlock ≠ some a.block) := fun _ a ha => by
                have h1 := hxn a ha
                refine ⟨by omega, fun e => ?_⟩
                have := hY7l _ e
                omega
              have b0 : w9.cell? ⟨B12, 0, none⟩ = some (.int .i64 (n : Int)) := by rw [cell_of_row _ _ _ _ _ _ hbx]; rfl
              have b1 : w9.cell? ⟨B12, 1, none⟩ = some (.slice xo M cm) := by rw [cell_of_row _ _ _ _ _ _ hbx]; rfl
              have HBx : Hid (w9.heap[B12]? = some (.cells #[.int .i64 (n : Int), .slice xo M cm] 63 (0, 0))) := hbx
              have hB12 : B < B12 := by have := hX8'.lt; rw [HB12.out]; exact this
              clear hrok hokT hdt hWR hM hxn hTm hbx hX88 hX8' HY8 hG8 hs78 hY7l hB7l HMM
              go_upto_region 15 with fail
              rw [HW9.out, ← HB12.out]
              clear HW9 HB12
              by_cases hnk : (n : Int) = (N' : Int) + 1
              · have hne : ((n : Int) != (N' : Int) + 1) = false := by rw [hnk]; simp
                obtain ⟨r, hls', hR'⟩ := Rds.step HRd.out HNe.out HRok.out (by show (n : Int) = _; rw [hnk, ← HN'.out]; omega)
                have HLs2 : Hid (txs (ds ++ [⟨n, xo, M, cm, ws⟩]) ++ r = ls) := by
                  show _ = _
                  rw [txs_append, ← HLs.out, hls', List.append_assoc]
                  rfl
                have hN'L : N' + 1 ≤ L := by
                  have h1 := congrArg List.length HLs2.out
                  rw [List.length_append, txs_length, List.length_append, ← HN'.out] at h1
                  simp at h1
                  omega
                have HR2 : Hid (Rds (1 + (ds ++ [(⟨n, xo, M, cm, ws⟩ : Tm)]).length) (xs.drop p2) r vs c) := by
                  show Rds _ _ _ _ _
                  rw [List.length_append, show 1 + (ds.length + [(⟨n, xo, M, cm, ws⟩ : Tm)].length) = 1 + ds.length + 1 from by simp; omega]
                  exact hR'
                have hpp : p < p2 := by
                  obtain ⟨e1, e2⟩ := recF_inv (HD.out p) HRok.out
                  have h1 := congrArg List.length e1
                  have h2 := (encR_length e2).1
                  rw [List.length_append, List.length_drop, List.length_drop, ← HL.out] at h1
                  omega
                have HOw : w9.ownsRow 0 63 2 (.slice ro N' rc) N' (tmsC ds) := by
                  have := HY9.out.row
                  rw [← HN'.out] at this
                  exact this
                have hB8ne : B8 ∉ (Value.slice ro N' rc).ownBlock.toList := by
                  intro hm
                  obtain ⟨cs', hc⟩ := own_type HOw B8 (by simpa using hm)
                  rw [hX89.box] at hc
                  simp at hc
                have hBne : B ∉ (Value.slice ro N' rc).ownBlock.toList := by
                  intro hm
                  exact (HY9.out.new B (by simpa using hm)).2 rfl
                clear hls' hR' hnk HEnd HRd
                go_upto_region 19 with fail
                go_wp2_with (at_builtin; refine wpList_app _ rfl (.tmp 70) (.tmp 72) 22 rfl 63 iT _ 2 32 Tryz.undTsR hiT hzT hsT hbT rfl (by decide) _ N' _ rfl (HOw.alloc _) ⟨w9.heap.size, 0, none⟩ 1 [.int .i64 (n : Int), .slice xo M cm] rfl rfl ?c1 ?c2 ?c3 ?c4 ?_)
                case c1 => intro j u hj; match j, hj with | 0, hj => simp at hj; subst hj; simp [Addr.add] | 1, hj => simp at hj; subst hj; simp [Addr.add]
                case c2 => intro u hu; simp at hu; rcases hu with rfl | rfl <;> rfl
                case c3 => omega
                case c4 => unfold maxLen; omega
                intro g' cap' w11 hown hwent
                have hFa : Fr [] w9 (w9.alloc (.cells #[.int .i64 (n : Int), .slice xo M cm] 63)) := Fr.alloc [] w9 _
                have hFg := hwent.fr
                have hX811 := (hX89.keep hFa (by simp)).keep hFg hB8ne
                have hX11 := (hX9.keep hFa (by simp)).keep hFg hBne
                have hG11 : Fr [] w w11 := (hG9.then hFa).on hFg (by intro x hx; exact (HY9.out.new x (by simpa using hx)).1)
                have HY11 : Hid (Yr w w11 B (.slice (some ⟨g', 0, none⟩) (N' + 1) cap') (ds ++ [⟨n, xo, M, cm, ws⟩])) := by
                  have h1 := HY9.out.quiet hFa
                  have h2 := Yr.app (g := g') (cap := cap') (W' := w11) h1 (hG9.then hFa).size (by have := hX9.lt; have := hFa.size; omega) ⟨n, xo, M, cm, ws⟩ (HTm.out.keep hFa) HOff.out (by rw [← HN'.out]; exact hown) hwent
                  rw [← HN'.out] at h2
                  exact h2
                have y0 := hX811.c0
                have y1 := hX811.c1
                have y2 := hX811.c2
                have y3 := hX811.c3
                have x0 := hX11.c0
                have x1 := hX11.c1
                have x2 := hX11.c2
                have x3 := hX11.c3
                have f0 := hX11.f 0
                have f1 := hX11.f 1
                have f2 := hX11.f 2
                have f3 := hX11.f 3
                obtain ⟨w12, HW12⟩ : ∃ w12, Hid ((((w11.setCell ⟨B, 0, none⟩ (.bool false)).setCell ⟨B, 1, none⟩ (.slice ao L cap)).setCell ⟨B, 2, none⟩ (.int .i64 (p2 : Int))).setCell ⟨B, 3, none⟩ (.int .i64 0) = w12) := ⟨_, rfl⟩
                have hX12 : Bx w12 B false (.slice ao L cap) p2 0 := by rw [← HW12.out]; exact hX11.set false _ _ _
                have hF12 : Fr [B] w11 w12 := by rw [← HW12.out]; exact Fr.sets4 _ _ _ _ _ _
                have hG12 : Fr [] w w12 := hG11.on hF12 (by intro x hx; simp at hx; omega)
                have HY12 : Hid (Yr w w12 B (.slice (some ⟨g', 0, none⟩) (N' + 1) cap') (ds ++ [⟨n, xo, M, cm, ws⟩])) := HY11.out.box hF12
                have c2 := hX12.c2
                have HN2 : Hid (N' + 1 = (ds ++ [(⟨n, xo, M, cm, ws⟩ : Tm)]).length) := by show _ = _; rw [List.length_append, ← HN'.out]; rfl
                clear hown hwent hFa hFg hX811 hX11 hG11 HY11 hF12 HOw hX89 hX9 HY9 hG9 HTm HOff HBx b0 b1 hB8ne hBne
                go_upto_region 21 with fail
                rw [HW12.out]
                clear y0 y1 y2 y3 x0 x1 x2 x3 f0 f1 f2 f3 HW12
                go_wp2
                go_roundw
                case rel => exact ⟨p2, N' + 1, cap', some ⟨g', 0, none⟩, ds ++ [⟨n, xo, M, cm, ws⟩], r, rfl, rfl, hp2L, hN'L, HN2, HLs2, HR2, hX12, HY12, hG12⟩
                case measure => simp [intOf]; omega
              · have hne : ((n : Int) != (N' : Int) + 1) = true := by rw [bne_iff_ne]; exact hnk
                obtain ⟨q1, q2, q3⟩ := Rds.out HRd.out HNe.out HRok.out (by show (n : Int) ≠ _; rw [← HN'.out]; omega)
                obtain ⟨ds', h1, h2, h3, h4, h5⟩ := HEnd.out _ hG9 HY9.out q1 q2
                have HE : Hid (txs ds' = ls ∧ TRs w9 ro ds' ∧ N = ds'.length) := ⟨h1, h2, by omega⟩
                subst h4 h5 q3
                clear h1 h2 h3 HEnd hnk
                go_wp2
                go_ret3
                exact ⟨ro, rc, rfl, ds', HE.out.1, HE.out.2.1, HE.out.2.2, hG9⟩
          · have hmi : ((m : Int) != (mc : Int)) = true := by rw [bne_iff_ne]; omega
            obtain ⟨q1, q2, q3⟩ := Rds.err HRd.out HNe.out (by rw [HRec.out]; exact recC_e (by rw [HMc.out]; exact hmm))
            obtain ⟨ds', h1, h2, h3, h4, h5⟩ := HEnd.out _ hG7 HY7.out q1 q2
            have HE : Hid (txs ds' = ls ∧ TRs w7 ro ds' ∧ N = ds'.length) := ⟨h1, h2, by omega⟩
            subst h4 h5 q3
            clear h1 h2 h3 HEnd hmm
            go_wp2
            go_ret3
            exact ⟨ro, rc, rfl, ds', HE.out.1, HE.out.2.1, HE.out.2.2, hG7⟩
        · have hen : ((e2 : Int) != 0) = true := by rw [bne_iff_ne]; omega
          obtain ⟨q1, q2, q3⟩ := Rds.err HRd.out HNe.out (by rw [recF_s HT.out, HDrop.out]; exact recS_e HF4.out he2)
          obtain ⟨ds', h1, h2, h3, h4, h5⟩ := HEnd.out _ hG5 HY5.out q1 q2
          have HE : Hid (txs ds' = ls ∧ TRs w5 ro ds' ∧ N = ds'.length) := ⟨h1, h2, by omega⟩
          subst h4 h5 q3
          clear h1 h2 h3 HEnd
          go_wp2_with fail
          go_quiet (fail)
          go_wp2
          go_ret3
          exact ⟨ro, rc, rfl, ds', HE.out.1, HE.out.2.1.keep (Fr.drewN _ _ _), HE.out.2.2, hG5.then (Fr.drewN _ _ _)⟩
      · have hen : ((e1 : Int) != 0) = true := by rw [bne_iff_ne]; omega
        obtain ⟨q1, q2, q3⟩ := Rds.err HRd.out HNe.out (recF_e1 HT.out he1)
        obtain ⟨ds', h1, h2, h3, h4, h5⟩ := HEnd.out _ hG3 HY3.out q1 q2
        have HE : Hid (txs ds' = ls ∧ TRs w3 ro ds' ∧ N = ds'.length) := ⟨h1, h2, by omega⟩
        subst h4 h5 q3
        clear h1 h2 h3 HEnd
        go_wp2_with fail
        go_quiet (fail)
        go_wp2
        go_ret3
        exact ⟨ro, rc, rfl, ds', HE.out.1, HE.out.2.1.keep (Fr.drewN _ _ _), HE.out.2.2, hG3.then (Fr.drewN _ _ _)⟩
    · obtain rfl : p = L := by omega
      have hdn : xs.drop p = [] := List.drop_eq_nil_of_le (by rw [← HL.out]; exact Nat.le_refl _)
      have hrd := HRd.out
      rw [hdn] at hrd
      obtain ⟨q1, q2, q3⟩ := Rds.none hrd
      have hq0 : q = 0 := by have := Hq.out; omega
      subst hq0
      have HLf0 : Hid (Calls Tryz.prog 87 #[(.agg #[.bool false, .slice ao p cap, .int .i64 (p : Int), .int .i64 0])] wr fun e w' => e = .returned (.int .i64 0) ∧ Fr [] wr w') := HLf.out
      have HEn := HEnd.out
      clear hrd HEnd HLf
      subst q3
      go_wp2_with fail
      refine Calls.mono HLf0.out ?_
      rintro e w1 ⟨rfl, hF1⟩
      obtain ⟨ds', h1, h2, h3, h4, h5⟩ := HEn _ (hFr.then hF1) (HY.out.quiet hF1) q1 (by rw [hdn]; exact q2)
      have HE : Hid (txs ds' = ls ∧ TRs w1 ro ds' ∧ N = ds'.length) := ⟨h1, h2, by omega⟩
      have hG1 := hFr.then hF1
      subst h4 h5
      clear h1 h2 h3 HEn
      go_wp2
      go_ret3
      exact ⟨ro, rc, rfl, ds', HE.out.1, HE.out.2.1, HE.out.2.2, hG1⟩
end Go.Proofs.YtaefninikmaiiaaGreatDoor
