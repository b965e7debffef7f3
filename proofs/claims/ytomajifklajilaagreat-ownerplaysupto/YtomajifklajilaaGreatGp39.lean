/- Texts of this claim laid together, one behind the other: contracts and plain lemmas; conditions as each names them. -/
import Derived.Test.YtomajifklajilaaGreatGp38
import Derived.Test.YtomajifklajilaaGreatGp36
/- Both shards side by side, there or not: which blocks are theirs, what leaves them alone, each call on both sides. Conditions as each names them. -/
namespace Go.Proofs.YtomajifklajilaaGreat
open Go.ChangeShapes Go.WideShapes Go.ChangeAt Go.RowKit Go.Lib Go.Maps
set_option linter.unusedVariables false
set_option linter.unusedSimpArgs false

/-- The program's blocks, the document's. -/
def PB (w : World) (sb b j : Nat) : Prop := j = sb ∨ j = b ∨ RowOf w b j
def DB (g : Nat) (lo : Option Addr) (N lc : Nat) (hs : List Hd) (j : Nat) : Prop := j = g ∨ (Value.slice lo N lc).ownBlock = some j ∨ ∃ x ∈ hs, VB x j
/-- Both shards are there, and have the same versions. -/
structure Lv (w0 w : World) (sb b g N lc n : Nat) (lo : Option Addr) (hs : List Hd) (Own : Nat → Prop) : Prop where
  sh : Sh w0 w sb b n (mOf hs)
  ks : KSh w0 w g N lc lo hs
  le : N ≤ n
  ap : ∀ j, PB w sb b j → ¬ DB g lo N lc hs j
  own : ∀ j, Own j ↔ PB w sb b j ∨ DB g lo N lc hs j
  nw : ∀ j, Own j → w0.heap.size ≤ j
/-- Both shards: there, or neither. -/
def Pr9 (w0 w : World) (s r : Option Addr) (n : Nat) (Own : Nat → Prop) : Prop :=
  (∃ sb b g N lc lo hs, s = some ⟨sb, 0, none⟩ ∧ r = some ⟨g, 0, none⟩ ∧ Lv w0 w sb b g N lc n lo hs Own) ∨ (NoSh w s ∧ r = none ∧ (∀ j, Own j ↔ ∃ a, s = some a ∧ a.block = j) ∧ ∀ j, Own j → w0.heap.size ≤ j)
/-- Only blocks of one's own, and new ones, may differ. -/
def FrM (w w' : World) (Own : Nat → Prop) : Prop := ∃ S, Fr S w w' ∧ ∀ j ∈ S, j < w.heap.size → Own j
theorem FrM.of {w w' : World} {Own : Nat → Prop} (h : Fr [] w w') : FrM w w' Own := ⟨[], h, by simp⟩
theorem FrM.size {w w' : World} {Own : Nat → Prop} (h : FrM w w' Own) : w.heap.size ≤ w'.heap.size := by
  obtain ⟨S, h, _⟩ := h
  exact h.size
theorem FrM.to {w w' : World} {Own : Nat → Prop} (h : FrM w w' Own) : ∃ T, Fr T w w' ∧ ∀ j ∈ T, Own j := by
  obtain ⟨S, h1, h2⟩ := h
  classical
  refine ⟨S.filter fun j => decide (j < w.heap.size), h1.mono (fun x hx hl => List.mem_filter.2 ⟨hx, by simpa using hl⟩), fun j hj => ?_⟩
  obtain ⟨a, b⟩ := List.mem_filter.1 hj
  exact h2 j a (by simpa using b)
theorem FrM.trans {w w1 w2 : World} {Own Own1 : Nat → Prop} (h : FrM w w1 Own) (k : FrM w1 w2 Own1) (hO : ∀ j, Own1 j → Own j ∨ w.heap.size ≤ j) : FrM w w2 Own := by
  obtain ⟨S, h1, h2⟩ := h
  obtain ⟨T, k1, k2⟩ := k
  refine ⟨S ++ T, h1.trans k1 (fun x hx _ => List.mem_append_left _ hx) (fun x hx _ => List.mem_append_right _ hx), fun j hj hl => ?_⟩
  rcases List.mem_append.1 hj with e | e
  · exact h2 j e hl
  · rcases hO j (k2 j e (Nat.lt_of_lt_of_le hl h1.size)) with q | q
    · exact q
    · omega
section
variable {w0 w w' : World} {sb b g N lc n : Nat} {lo : Option Addr} {hs : List Hd} {Own : Nat → Prop} {s r : Option Addr} {S : List Nat}
theorem KSh.keepS (h : KSh w0 w g N lc lo hs) (hf : Fr S w w') (hn : ∀ j ∈ S, ¬ DB g lo N lc hs j) : KSh w0 w' g N lc lo hs :=
  ⟨hf.keep h.box (fun hm => hn g hm (Or.inl rfl)), ⟨h.log.len, owns_keepB h.log.row hf (fun k hk hm => hn k hm (Or.inr (Or.inl hk))), fun x hx => (h.log.each x hx).keepS hf (fun j hj hm => hn j hm (Or.inr (Or.inr ⟨x, hx, hj⟩))), fun x hx => (h.log.ty x hx).keepS hf (fun j hj hm => hn j hm (Or.inr (Or.inr ⟨x, hx, hj⟩)))⟩, h.ok, h.few, h.gn⟩
theorem KSh.blk (h : KSh w0 w g N lc lo hs) {j : Nat} (hj : DB g lo N lc hs j) : j < w.heap.size := by
  rcases hj with rfl | hj | ⟨x, hx, hj⟩
  · exact h.lt
  · obtain ⟨_, cur, e⟩ := owns_cells h.log.row hj
    exact lt_of_block e
  · exact (h.log.each x hx).blk hj
theorem Sh.blk9 {M : ByteArray → List Vn} (h : Sh w0 w sb b n M) {j : Nat} (hj : PB w sb b j) : j < w.heap.size := by
  rcases hj with rfl | rfl | hj
  · exact lt_of_block h.box
  · exact h.bl
  · obtain ⟨_, cur, e⟩ := h.rowLt hj
    exact lt_of_block e
theorem PB.same (hf : Fr S w w') (hb : b ∉ S) (hl : b < w.heap.size) (j : Nat) : PB w' sb b j ↔ PB w sb b j := by
  unfold PB
  constructor
  · rintro (e | e | e)
    · exact Or.inl e
    · exact Or.inr (Or.inl e)
    · exact Or.inr (Or.inr (e.back hf hb hl))
  · rintro (e | e | e)
    · exact Or.inl e
    · exact Or.inr (Or.inl e)
    · obtain ⟨G, m, k, L, c, hM, hk, hG⟩ := e
      exact Or.inr (Or.inr ⟨G, m, k, L, c, hM.keep hf hb, hk, hG⟩)
theorem Lv.keep (h : Lv w0 w sb b g N lc n lo hs Own) (hf : Fr S w w') (hS : ∀ j ∈ S, ¬ Own j) : Lv w0 w' sb b g N lc n lo hs Own := by
  have h1 : ∀ j ∈ S, ¬ PB w sb b j := fun j hj hm => hS j hj ((h.own j).2 (Or.inl hm))
  have h2 : ∀ j ∈ S, ¬ DB g lo N lc hs j := fun j hj hm => hS j hj ((h.own j).2 (Or.inr hm))
  have hb : b ∉ S := fun hm => h1 b hm (Or.inr (Or.inl rfl))
  have hP := PB.same (sb := sb) hf hb h.sh.bl
  refine ⟨h.sh.keepS hf (fun hm => h1 sb hm (Or.inl rfl)) (fun j hj hm => h1 j hj ?_), h.ks.keepS hf h2, h.le, fun j hj => h.ap j ((hP j).1 hj), fun j => ?_, h.nw⟩
  · rcases hm with e | e
    · exact Or.inr (Or.inl e)
    · exact Or.inr (Or.inr e.2)
  · rw [hP j]; exact h.own j
theorem Pr9.keep (h : Pr9 w0 w s r n Own) (hf : Fr S w w') (hS : ∀ j ∈ S, ¬ Own j) : Pr9 w0 w' s r n Own := by
  rcases h with ⟨sb, b, g, N, lc, lo, hs, e1, e2, h⟩ | ⟨h1, h2, h3, h4⟩
  · exact Or.inl ⟨sb, b, g, N, lc, lo, hs, e1, e2, h.keep hf hS⟩
  · exact Or.inr ⟨h1.keep hf (fun a ha hm => hS _ hm ((h3 _).2 ⟨a, ha, rfl⟩)), h2, h3, h4⟩
theorem Pr9.quiet (h : Pr9 w0 w s r n Own) (hf : Fr [] w w') : Pr9 w0 w' s r n Own := h.keep hf (by simp)
theorem Pr9.nw (h : Pr9 w0 w s r n Own) : ∀ j, Own j → w0.heap.size ≤ j := by
  rcases h with ⟨sb, b, g, N, lc, lo, hs, e1, e2, h⟩ | ⟨h1, h2, h3, h4⟩
  · exact h.nw
  · exact h4
theorem Pr9.lt (h : Pr9 w0 w s r n Own) : ∀ j, Own j → j < w.heap.size := by
  rcases h with ⟨sb, b, g, N, lc, lo, hs, e1, e2, h⟩ | ⟨h1, h2, h3, h4⟩
  · intro j hj
    rcases (h.own j).1 hj with e | e
    · exact h.sh.blk9 e
    · exact h.ks.blk e
  · intro j hj
    obtain ⟨a, ha, rfl⟩ := (h3 j).1 hj
    rcases h1 with e | ⟨z, e, hz⟩
    · rw [e] at ha; cases ha
    · rw [e] at ha; cases ha
      exact lt_of_block hz
/-- What a call that moves things leaves. -/
def Nx9 (w0 w w2 : World) (s r : Option Addr) (n : Nat) (Own : Nat → Prop) : Prop := ∃ Own', Pr9 w0 w2 s r n Own' ∧ FrM w w2 Own ∧ ∀ j, Own' j → Own j ∨ w.heap.size ≤ j
theorem InTold.one {M M1 M2 : ByteArray → List Vn} {p : Pt} {o1 o2 : Bool} {c1 c2 : Nat} (h : InTold M p M1 o1 c1) (k : InTold M p M2 o2 c2) : M1 = M2 ∧ o1 = o2 ∧ c1 = c2 := by
  rcases h with ⟨a1, a2, a3, a4⟩ | ⟨a1, a2, a3⟩ <;> rcases k with ⟨b1, b2, b3, b4⟩ | ⟨b1, b2, b3⟩
  · exact ⟨by rw [a4, b4], by rw [a2, b2], by rw [a1, b1]⟩
  · exact absurd b2 a3
  · exact absurd a2 b3
  · refine ⟨?_, ?_, by rw [a1, b1]⟩ <;> rcases a3 with ⟨p1, p2, y, hy, ey⟩ | ⟨p1, p2, us, p3, p4, p5⟩ <;> rcases b3 with ⟨q1, q2, z, hz, ez⟩ | ⟨q1, q2, vs, q3, q4, q5⟩
    · rw [p2, q2]
    · exact absurd ey (q2 y hy)
    · exact absurd ez (p2 z hz)
    · rw [p3, q3, ris_unique us vs p4.2 q4.2 (fun x => (p5 x).trans (q5 x).symm)]
    · rw [p1, q1]
    · exact absurd ey (q2 y hy)
    · exact absurd ez (p2 z hz)
    · rw [p1, q1]
theorem SzT.one {M : ByteArray → List Vn} {a c : Nat} (h : SzT M a) (k : SzT M c) : a = c := by
  obtain ⟨ks, h1, h2, rfl⟩ := h
  obtain ⟨qs, k1, k2, rfl⟩ := k
  exact sum_same _ h1 k1 (fun x => (h2 x).trans (k2 x).symm)
theorem GoT.one {M : ByteArray → List Vn} {q : Int} {a c : Nat} (h : GoT M q a) (k : GoT M q c) : a = c := by
  obtain ⟨ks, h1, h2, rfl⟩ := h
  obtain ⟨qs, k1, k2, rfl⟩ := k
  exact sum_same _ h1 k1 (fun x => (h2 x).trans (k2 x).symm)
theorem GtH.is {key : ByteArray} {mk : Int} {q : ByteArray} {o : Bool} (h : GtH hs key mk q o) (hl : LoOk hs) : o = (valAt (mOf hs key) mk).isSome ∧ q = (valAt (mOf hs key) mk).getD noS := by
  obtain ⟨i, ok, hP, ⟨rfl, rfl, rfl⟩ | ⟨rfl, hA⟩⟩ := h
  · have e : mOf hs key = [] := mOf_off (fun x hx => hP.off hl x hx)
    rw [e, valAt_nil]
    exact ⟨rfl, rfl⟩
  · obtain ⟨h1, h2, h3⟩ := hP.at hl
    rw [h3]
    exact hA.is (hl.2 _ (hgetD_mem hs i h1)).2.2
/-- What the program's call leaves of the document's shard. -/
theorem Lv.mid (h : Lv w0 w sb b g N lc n lo hs Own) (hf : FrS w0 b w w') : KSh w0 w' g N lc lo hs ∧ FrM w w' Own := by
  obtain ⟨S, hS, hm⟩ := hf
  obtain ⟨m1, m2⟩ := hm h.sh.bl
  have hin : ∀ j ∈ S, j < w.heap.size → PB w sb b j := fun j hj hl => by
    rcases m1 j hj hl with e | e
    · exact Or.inr (Or.inl e)
    · exact Or.inr (Or.inr e.2)
  refine ⟨?_, S, hS, fun j hj hl => (h.own j).2 (Or.inl (hin j hj hl))⟩
  obtain ⟨T, hT, hT2⟩ := FrM.to (Own := PB w sb b) ⟨S, hS, hin⟩
  exact h.ks.keepS hT (fun j hj hm => h.ap j (hT2 j hj) hm)
/-- And what the document's then leaves of both. -/
theorem Lv.next {w1 w2 : World} {n' N' lc' : Nat} {lo' : Option Addr} {gs : List Hd} (h : Lv w0 w sb b g N lc n lo hs Own) (hf : FrS w0 b w w1) (h1 : Sh w0 w1 sb b n' (mOf gs)) (h2 : KSh w0 w2 g N' lc' lo' gs) (hle : N' ≤ n') (hF : Fr (g :: (Value.slice lo N lc).ownBlock.toList) w1 w2) (hN : KNw w1 hs gs) (hrow : ∀ j, (Value.slice lo' N' lc').ownBlock = some j → (Value.slice lo N lc).ownBlock = some j ∨ w1.heap.size ≤ j) :
    ∃ Own', Lv w0 w2 sb b g N' lc' n' lo' gs Own' ∧ FrM w w2 Own ∧ ∀ j, Own' j → Own j ∨ w.heap.size ≤ j := by
  obtain ⟨_, hM⟩ := h.mid hf
  have hs1 : w.heap.size ≤ w1.heap.size := hf.size
  have hD : ∀ j, DB g lo' N' lc' gs j → DB g lo N lc hs j ∨ w1.heap.size ≤ j := fun j hj => by
    rcases hj with e | e | ⟨x, hx, e⟩
    · exact Or.inl (Or.inl e)
    · rcases hrow j e with q | q
      · exact Or.inl (Or.inr (Or.inl q))
      · exact Or.inr q
    · rcases hN x hx j e with q | ⟨y, hy, q⟩
      · exact Or.inr q
      · exact Or.inl (Or.inr (Or.inr ⟨y, hy, q⟩))
  have hFD : ∀ j ∈ g :: (Value.slice lo N lc).ownBlock.toList, DB g lo N lc hs j := fun j hj => by
    rcases List.mem_cons.1 hj with e | e
    · exact Or.inl e
    · exact Or.inr (Or.inl (Option.mem_toList.1 e))
  have hP1 : ∀ j, PB w1 sb b j → PB w sb b j ∨ w.heap.size ≤ j := fun j hj => by
    rcases hj with e | e | e
    · exact Or.inl (Or.inl e)
    · exact Or.inl (Or.inr (Or.inl e))
    · rcases hf.rows h.sh.bl e with q | q
      · exact Or.inl (Or.inr (Or.inr q))
      · exact Or.inr q
  have hDl : ∀ j, DB g lo N lc hs j → j < w.heap.size := fun j hj => h.ks.blk hj
  have hno : ∀ j, PB w1 sb b j → ¬ DB g lo N lc hs j := fun j hj hd => by
    rcases hP1 j hj with q | q
    · exact h.ap j q hd
    · have := hDl j hd; omega
  have hb : b ∉ g :: (Value.slice lo N lc).ownBlock.toList := fun hm => hno b (Or.inr (Or.inl rfl)) (hFD b hm)
  have hPs := PB.same (sb := sb) hF hb h1.bl
  have hown : ∀ j, (PB w2 sb b j ∨ DB g lo' N' lc' gs j) → Own j ∨ w.heap.size ≤ j := fun j hj => by
    rcases hj with e | e
    · rcases hP1 j ((hPs j).1 e) with q | q
      · exact Or.inl ((h.own j).2 (Or.inl q))
      · exact Or.inr q
    · rcases hD j e with q | q
      · exact Or.inl ((h.own j).2 (Or.inr q))
      · exact Or.inr (Nat.le_trans hs1 q)
  have h0 : w0.heap.size ≤ w.heap.size := by have := h.sh.bn; have := h.sh.bl; omega
  refine ⟨fun j => PB w2 sb b j ∨ DB g lo' N' lc' gs j, ⟨h1.keepS hF (fun hm => hno sb (Or.inl rfl) (hFD sb hm)) (fun j hj hm => ?_), h2, hle, fun j hj hd => ?_, fun j => Iff.rfl, fun j hj => ?_⟩, ?_, hown⟩
  · refine hno j ?_ (hFD j hj)
    rcases hm with e | e
    · exact Or.inr (Or.inl e)
    · exact Or.inr (Or.inr e.2)
  · have hj1 := (hPs j).1 hj
    rcases hD j hd with q | q
    · exact hno j hj1 q
    · have := h1.blk9 hj1; omega
  · rcases hown j hj with q | q
    · exact h.nw j q
    · omega
  · exact hM.trans (Own1 := DB g lo N lc hs) ⟨_, hF, fun j hj _ => hFD j hj⟩ (fun j hj => Or.inl ((h.own j).2 (Or.inr hj)))
end
end Go.Proofs.YtomajifklajilaaGreat
/- The document's shard: contract of Scan. Conditions as it names them. -/
namespace Go.Proofs.YtomajifklajilaaGreat
open Go.ChangeShapes Go.WideShapes Go.ChangeAt Go.RowKit Go.Lib Go.Maps
set_option linter.unusedVariables false
set_option linter.unusedSimpArgs false

theorem EOut.keep9 {w w1 w2 : World} {ro : Option Addr} {N rc : Nat} {ps : List Pr} (h : EOut w w1 ro N rc ps) (hf : Fr [] w1 w2) : EOut w w2 ro N rc ps := ⟨h.len, owns_keepB h.row hf (by simp)⟩
section
variable {w0 w : World} {g N lc : Nat} {lo : Option Addr} {hs : List Hd}
set_option maxHeartbeats 4000000 in
set_option maxRecDepth 100000 in
theorem kscan_any (h : KSh w0 w g N lc lo hs) (key en : ByteArray) (k : Int) : Calls Tryz.prog 36 #[.pointer (some ⟨g, 0, none⟩), .string key, .string en, .int .i64 k] w fun e w' => ∃ ro R rc, e = .returned (.slice ro R rc) ∧ EOut w w' ro R rc (hs.filterMap (scOf key en k)) ∧ R ≤ N ∧ Fr [] w w' := by
  have HK : Hid (∀ W, Fr [] w W → KSh w0 W g N lc lo hs) := fun W hf => h.keep hf
  have HN : Hid (N = hs.length) := h.log.len
  have hfew := h.few
  have HOk : Hid (LoOk hs) := h.ok
  clear h
  go_enter Tryz.func36, Tryz.ntmps36
  have c0 := (HK.out _ (Fr.refl _ _)).c0
  go_wp2_with fail
  go_loopw [9, 10] (fun vv ii wr => ∃ (i R rc : Nat) (ro : Option Addr), vv = .slice ro R rc ∧ ii = .int .i64 i ∧ i ≤ N ∧ R ≤ i ∧ Hid (EOut w wr ro R rc ((hs.take i).filterMap (scOf key en k))) ∧ Fr [] w wr) (fun _ ii _ => N - (RowKit.intOf ii).toNat)
  case atStart => exact ⟨0, 0, 0, none, rfl, rfl, Nat.zero_le _, Nat.le_refl _, ⟨rfl, ⟨rfl, .inl ⟨rfl, rfl⟩⟩⟩, Fr.refl _ _⟩
  case round =>
    clear c0
    obtain ⟨i, R, rc, ro, rfl, rfl, hiN, hRi, HO, hFr⟩ := hrel
    have c0 := (HK.out _ hFr).c0
    by_cases hi : i < N
    · have hi' : i < hs.length := by rw [← HN.out]; exact hi
      have hR := (HK.out _ hFr).rs
      obtain ⟨b, off, e9, hbl, hc⟩ := hR.lies (by omega)
      obtain ⟨d0, d1⟩ := hc i hi'
      have hE := hR.each _ (hgetD_mem hs i hi')
      have HT : Hid ((hs.take (i + 1)).filterMap (scOf key en k) = (hs.take i).filterMap (scOf key en k) ++ (scOf key en k (hs.getD i Hd.zero)).toList) := by
        show _ = _
        rw [htake_snoc hs i hi', List.filterMap_append]
        congr 1
      have HX : Hid (okV (hs.getD i Hd.zero).vs) := (HOk.out.2 _ (hgetD_mem hs i hi')).2.2
      obtain ⟨x, hx⟩ : ∃ x, x = hs.getD i Hd.zero := ⟨_, rfl⟩
      rw [← hx] at d0 d1 hE HT HX
      clear hc hx hR
      obtain ⟨k2, vo, M, cm, vs⟩ := x
      simp only at d0 d1
      have HM2 : Hid (M = vs.length) := hE.len
      have HV : Hid (VRs wr vo vs) := hE.rs
      have HC : Hid (∀ W, Fr [] wr W → W.cell? ⟨b, off + i * 2, none⟩ = some (.string k2)) := fun W hf => (World.cell?_of_block (hf.block b hbl (by simp))).trans d0
      subst e9
      clear hE
      go_wp2_with fail
      refine (kat_any vo M cm k vs wr HV.out HM2.out).mono ?_
      rintro e w4 ⟨r, o, rfl, hA, hF4⟩
      obtain ⟨hA1, hA2⟩ := hA.is HX.out
      have HA1 : Hid (o = (valAt vs k).isSome) := hA1
      have HA2 : Hid (r = (valAt vs k).getD noS) := hA2
      have hG4 := hFr.then hF4
      have e0 := (HK.out _ hG4).c0
      have e1 := HC.out _ hF4
      have HC4 : Hid (∀ W, Fr [] w4 W → W.cell? ⟨b, off + i * 2, none⟩ = some (.string k2)) := fun W hf => HC.out W (hF4.then hf)
      have HO4 : Hid (EOut w w4 ro R rc ((hs.take i).filterMap (scOf key en k))) := HO.out.keep9 hF4
      clear hA hA1 hA2 hF4 hFr HO HC d0 d1 c0 HV
      cases o with
      | false =>
        have HO2 : Hid (EOut w w4 ro R rc ((hs.take (i + 1)).filterMap (scOf key en k))) := by
          show EOut _ _ _ _ _ _
          have hz : valAt vs k = none := by
            cases hv : valAt vs k with
            | none => rfl
            | some v => have := HA1.out; rw [hv] at this; cases this
          have hz2 : scOf key en k ⟨k2, vo, M, cm, vs⟩ = none := by unfold scOf; rw [hz]; simp
          rw [HT.out, hz2]
          simpa using HO4.out
        clear HO4 HT HA1 HA2
        go_wp2
        go_roundw
        case rel => exact ⟨i + 1, R, rc, ro, rfl, by simp, by omega, by omega, HO2, hG4⟩
        case measure => simp [RowKit.intOf]; omega
      | true =>
        have HVa : Hid (valAt vs k = some r) := by
          show _ = _
          have h1 := HA1.out
          have h2 := HA2.out
          cases hv : valAt vs k with
          | none => rw [hv] at h1; cases h1
          | some v => rw [hv] at h2; rw [h2]; rfl
        clear HA1 HA2
        obtain ⟨B, HB⟩ : ∃ B, Hid (B = inS key en k2) := ⟨_, rfl⟩
        go_wp2_with fail
        refine (zIn_any k2 key en B w4 HB.out).mono ?_
        rintro e w5 ⟨rfl, hF5⟩
        have hG5 := hG4.then hF5
        have f0 := (HK.out _ hG5).c0
        have f1 := HC4.out _ hF5
        have HO5 : Hid (EOut w w5 ro R rc ((hs.take i).filterMap (scOf key en k))) := HO4.out.keep9 hF5
        clear hF5 HO4 HC4 e0 e1 hG4
        cases B with
        | false =>
          have HO2 : Hid (EOut w w5 ro R rc ((hs.take (i + 1)).filterMap (scOf key en k))) := by
            show EOut _ _ _ _ _ _
            have hz2 : scOf key en k ⟨k2, vo, M, cm, vs⟩ = none := by unfold scOf; rw [if_neg (by rw [← HB.out]; simp)]
            rw [HT.out, hz2]
            simpa using HO5.out
          clear HO5 HT
          go_wp2
          go_roundw
          case rel => exact ⟨i + 1, R, rc, ro, rfl, by simp, by omega, by omega, HO2, hG5⟩
          case measure => simp [RowKit.intOf]; omega
        | true =>
          obtain ⟨qs, hqs⟩ : ∃ qs, qs = (hs.take i).filterMap (scOf key en k) := ⟨_, rfl⟩
          have HQ : Hid (qs ++ [(k2, r)] = (hs.take (i + 1)).filterMap (scOf key en k)) := by
            show _ = _
            have hz2 : scOf key en k ⟨k2, vo, M, cm, vs⟩ = some (k2, r) := by unfold scOf; rw [if_pos HB.out.symm, HVa.out]; rfl
            rw [HT.out, ← hqs, hz2]
            rfl
          have hlen := HO5.out.len
          rw [← hqs] at hlen
          have HLn : Hid (R = qs.length) := hlen
          have HRow : Hid (w5.ownsRow w.heap.size 67 2 (.slice ro R rc) qs.length (celsE qs)) := by
            show World.ownsRow _ _ _ _ _ _ _
            rw [← hlen, hqs]
            exact HO5.out.row
          have hlb : qs.length + 1 < 3518437208884 := by rw [← hlen]; omega
          have hsz := hG5.size
          clear hlen hqs HO5 HT
          go_wp2_with (first
            | (at_builtin; refine wpList_appE _ rfl _ _ rfl w.heap.size (.slice ro R rc) qs rfl (owns_keepB HRow.out (Fr.alloc [] w5 _) (by simp)) (some ⟨w5.heap.size, 0, none⟩) 1 1 [(k2, r)] rfl (esl_new w5 (k2, r)) hlb (by simp; omega) ?_
               intro bo n1 cap1 w6 hn1 hO6 hF6
               have hG6 : Fr [] w w6 := (hG5.then (Fr.alloc [] w5 _)).on hF6 (fun y hy => (owns_cells HRow.out (Option.mem_toList.1 hy)).1)
               have hn2 : n1 = R + 1 := by rw [hn1, HLn.out]; simp
               go_frame))
          go_roundw
          case rel => exact ⟨i + 1, n1, cap1, bo, rfl, by simp, by omega, by omega, ⟨by rw [← HQ.out]; exact hn1, by rw [← HQ.out]; exact hO6⟩, hG6⟩
          case measure => simp [RowKit.intOf]; omega
    · obtain rfl : i = N := by omega
      have HO2 : Hid (EOut w wr ro R rc (hs.filterMap (scOf key en k))) := by
        have h1 := HO.out
        rw [List.take_of_length_le (by rw [← HN.out]; omega)] at h1
        exact h1
      go_wp2
      go_ret
      exact ⟨ro, R, rc, rfl, HO2.out, hRi, hFr⟩
end
end Go.Proofs.YtomajifklajilaaGreat
/- Each call on both shards, there or not, by one word. Conditions as each names them. -/
namespace Go.Proofs.YtomajifklajilaaGreat
open Go.ChangeShapes Go.WideShapes Go.ChangeAt Go.RowKit Go.Lib Go.Maps
set_option linter.unusedVariables false
set_option linter.unusedSimpArgs false
section
variable {w0 w w' : World} {n : Nat} {Own : Nat → Prop} {s r : Option Addr}
theorem pr_install (h : Pr9 w0 w s r n Own) (hn : n < 3518437208800) (num : Int) (key val : ByteArray) (drop : Bool) (hE : PEach ⟨num, key, val, drop⟩) :
    Calls Tryz.prog 60 #[.pointer s, .int .i64 num, .agg #[.string key, .string val, .bool drop]] w fun e w1 => ∃ (ok : Bool) (c : Int), e = .returned (.tuple #[.bool ok, .int .i64 c]) ∧ FrM w w1 Own ∧
      Calls Tryz.prog 34 #[.pointer r, .int .i64 num, .agg #[.string key, .string val, .bool drop]] w1 fun e w2 => e = .returned (.tuple #[.bool ok, .int .i64 c]) ∧ Nx9 w0 w w2 s r (n + 1) Own := by
  rcases h with ⟨sb, b, g, N, lc, lo, hs, rfl, rfl, h⟩ | ⟨h1, rfl, h3, h4⟩
  · have h0 : w0.heap.size ≤ w.heap.size := by have := h.sh.bn; have := h.sh.bl; omega
    refine (hinstall_any num key val drop w h.sh h0 hE (by omega)).mono ?_
    rintro e w1 ⟨ok, c, M', rfl, hI, hS1, hF1⟩
    obtain ⟨hK1, hM1⟩ := h.mid hF1
    have hs1 := hF1.size
    refine ⟨ok, _, rfl, hM1, (kinstall_any hK1 (Nat.le_trans h0 hs1) (by have := h.le; omega) num key val drop hE).mono ?_⟩
    rintro e w2 ⟨ok2, c2, N', lc', lo', gs, rfl, hI2, hK2, hN2, hKN, hRN, hF2⟩
    obtain ⟨e1, e2, e3⟩ := hI.one hI2
    subst e2 e3
    rw [e1] at hS1
    obtain ⟨Own', hL, hM2, hO⟩ := h.next hF1 hS1 hK2 (by have := h.le; omega) hF2 hKN hRN
    exact ⟨rfl, Own', Or.inl ⟨sb, b, g, N', lc', lo', gs, rfl, rfl, hL⟩, hM2, hO⟩
  · refine (hinstall_no s w h1 num key val drop).mono ?_
    rintro e w1 ⟨rfl, hF1⟩
    refine ⟨false, 2, rfl, FrM.of hF1, (kinstall_nil w1 num key val drop).mono ?_⟩
    rintro e w2 ⟨rfl, hF2⟩
    exact ⟨rfl, Own, Or.inr ⟨h1.keep (hF1.then hF2) (by simp), rfl, h3, h4⟩, FrM.of (hF1.then hF2), fun j hj => Or.inl hj⟩
theorem pr_collect (h : Pr9 w0 w s r n Own) (hn : n < 3518437208800) (k : Int) :
    Calls Tryz.prog 66 #[.pointer s, .int .i64 k] w fun e w1 => ∃ (c : Int), e = .returned (.int .i64 c) ∧ FrM w w1 Own ∧
      Calls Tryz.prog 37 #[.pointer r, .int .i64 k] w1 fun e w2 => e = .returned (.int .i64 c) ∧ Nx9 w0 w w2 s r n Own := by
  rcases h with ⟨sb, b, g, N, lc, lo, hs, rfl, rfl, h⟩ | ⟨h1, rfl, h3, h4⟩
  · have h0 : w0.heap.size ≤ w.heap.size := by have := h.sh.bn; have := h.sh.bl; omega
    refine (hcollect_any k w h.sh h0 (by omega)).mono ?_
    rintro e w1 ⟨S, rfl, hG, _, hS1, hF1⟩
    obtain ⟨hK1, hM1⟩ := h.mid hF1
    refine ⟨_, rfl, hM1, (kcollect_any hK1 k).mono ?_⟩
    rintro e w2 ⟨gs, rfl, hK2, hC, hKN, hF2⟩
    have e1 : S = goH hs k := hG.one (goH_is h.ks.ok k)
    obtain ⟨_, e2⟩ := hC.is h.ks.ok
    rw [← e2] at hS1
    obtain ⟨Own', hL, hM2, hO⟩ := h.next hF1 hS1 hK2 h.le (hF2.mono (fun x hx _ => List.mem_cons_of_mem _ hx)) hKN (fun j hj => Or.inl hj)
    exact ⟨by rw [e1], Own', Or.inl ⟨sb, b, g, N, lc, lo, gs, rfl, rfl, hL⟩, hM2, hO⟩
  · refine (hcollect_no s w h1 k).mono ?_
    rintro e w1 ⟨rfl, rfl⟩
    refine ⟨0, rfl, FrM.of (Fr.refl _ _), (kcollect_nil w k).mono ?_⟩
    rintro e w2 ⟨rfl, rfl⟩
    exact ⟨rfl, Own, Or.inr ⟨h1, rfl, h3, h4⟩, FrM.of (Fr.refl _ _), fun j hj => Or.inl hj⟩
theorem pr_get (h : Pr9 w0 w s r n Own) (key : ByteArray) (k : Int) (hk : key.size ≤ 140737488355328) : ∃ (q : ByteArray) (o : Bool),
    Calls Tryz.prog 62 #[.pointer s, .string key, .int .i64 k] w (fun e w' => e = .returned (.tuple #[.string q, .bool o]) ∧ Fr [] w w') ∧
      ∀ V, Fr [] w V → Calls Tryz.prog 35 #[.pointer r, .string key, .int .i64 k] V fun e w' => e = .returned (.tuple #[.string q, .bool o]) ∧ Fr [] V w' := by
  rcases h with ⟨sb, b, g, N, lc, lo, hs, rfl, rfl, h⟩ | ⟨h1, rfl, h3, h4⟩
  · refine ⟨(valAt (mOf hs key) k).getD noS, (valAt (mOf hs key) k).isSome, hget_any key k w h.sh hk, fun V hf => (kget_any (h.ks.keep hf) key k).mono ?_⟩
    rintro e w2 ⟨q, o, rfl, hG, hF⟩
    obtain ⟨e1, e2⟩ := hG.is h.ks.ok
    rw [e1, e2]
    exact ⟨rfl, hF⟩
  · refine ⟨⟨#[]⟩, false, (hget_no s w h1 key k).mono ?_, fun V hf => (kget_nil V key k).mono ?_⟩
    · rintro e w1 ⟨rfl, rfl⟩; exact ⟨rfl, Fr.refl _ _⟩
    · rintro e w1 ⟨rfl, rfl⟩; exact ⟨rfl, Fr.refl _ _⟩
theorem pr_scan (h : Pr9 w0 w s r n Own) (hn : n < 3518437208800) (key en : ByteArray) (k : Int) : ∃ ps : List Pr, ps.length ≤ n ∧
    (∀ V, Fr [] w V → Calls Tryz.prog 64 #[.pointer s, .string key, .string en, .int .i64 k] V fun e w' => ∃ ro N rc, e = .returned (.slice ro N rc) ∧ EOut V w' ro N rc ps ∧ Fr [] V w') ∧
      ∀ V, Fr [] w V → Calls Tryz.prog 36 #[.pointer r, .string key, .string en, .int .i64 k] V fun e w' => ∃ ro N rc, e = .returned (.slice ro N rc) ∧ EOut V w' ro N rc ps ∧ Fr [] V w' := by
  have nil : ∀ V : World, EOut V V none 0 0 [] := fun V => ⟨rfl, World.ownsRow_nil _ _ _ _⟩
  rcases h with ⟨sb, b, g, N, lc, lo, hs, rfl, rfl, h⟩ | ⟨h1, rfl, h3, h4⟩
  · refine ⟨hs.filterMap (scOf key en k), ?_, fun V hf => (hScan_any key en k V (h.sh.keep hf) (by omega)).mono ?_, fun V hf => (kscan_any (h.ks.keep hf) key en k).mono ?_⟩
    · have := List.length_filterMap_le (scOf key en k) hs
      have := h.ks.log.len
      have := h.le
      omega
    · rintro e w1 ⟨ro, R, rc, ps, rfl, hE, _, hI, hF⟩
      obtain rfl := hI.unique (scOf_is h.ks.ok key en k)
      exact ⟨ro, R, rc, rfl, hE, hF⟩
    · rintro e w1 ⟨ro, R, rc, rfl, hE, _, hF⟩
      exact ⟨ro, R, rc, rfl, hE, hF⟩
  · refine ⟨[], by simp, fun V hf => (hScan_no s V (h1.keep hf (by simp)) key en k).mono ?_, fun V hf => (kscan_nil V key en k).mono ?_⟩
    · rintro e w1 ⟨rfl, rfl⟩; exact ⟨none, 0, 0, rfl, nil _, Fr.refl _ _⟩
    · rintro e w1 ⟨rfl, rfl⟩; exact ⟨none, 0, 0, rfl, nil _, Fr.refl _ _⟩
/-- Keys with their versions, told by both sides. -/
def HSame (w w' : World) (ro : Option Addr) (N rc n : Nat) (kv : List (ByteArray × List Vn)) : Prop := ∃ hs, HOut w w' ro N rc hs ∧ HRs w' ro hs ∧ hs.map hkv = kv ∧ N ≤ n ∧ ∀ x ∈ hs, x.vs.length ≤ 131072
theorem pr_all (h : Pr9 w0 w s r n Own) (hn : n < 3518437208800) : ∃ kv,
    (∀ V, Fr [] w V → Calls Tryz.prog 49 #[.pointer s] V fun e w' => ∃ ro N rc, e = .returned (.slice ro N rc) ∧ HSame V w' ro N rc n kv ∧ Fr [] V w') ∧
      ∀ V, Fr [] w V → Calls Tryz.prog 50 #[.pointer r] V fun e w' => ∃ ro N rc hs, e = .returned (.slice ro N rc) ∧ N = hs.length ∧ HRs w' ro hs ∧ hs.map hkv = kv ∧ Fr [] V w' := by
  have nil : ∀ V : World, HOut V V none 0 0 [] := fun V => ⟨rfl, World.ownsRow_nil _ _ _ _, by simp, List.Pairwise.nil⟩
  have nil2 : ∀ V : World, HRs V none [] := fun V => ⟨fun h => by simp at h, by simp, by simp⟩
  rcases h with ⟨sb, b, g, N, lc, lo, hs, rfl, rfl, h⟩ | ⟨h1, rfl, h3, h4⟩
  · refine ⟨hs.map hkv, fun V hf => (hall_any V (h.sh.keep hf) (by omega)).mono ?_, fun V hf => (kall_any (h.ks.keep hf)).mono ?_⟩
    · rintro e w1 ⟨ro, R, rc, ps, rfl, hO, hR, hP, hF⟩
      have hl : LoOk ps := hP.ok (fun k hk => (h.ks.ok.2 _ (mOf_ne hk).choose_spec.1).1 |> fun q => by rw [(mOf_ne hk).choose_spec.2] at q; exact q) (fun k => mOf_ok h.ks.ok k)
      exact ⟨ro, R, rc, rfl, ⟨ps, hO, hO.rs hl (by omega), hP.one (mOf_pk h.ks.ok), hR, fun x hx => by have := okV_few (hl.2 x hx).2.2; omega⟩, hF⟩
    · rintro e w1 ⟨ro, rc, gs, rfl, hO, hG, hF⟩
      have hk := h.ks.ok.kv hG
      exact ⟨ro, N, rc, gs, rfl, hO.len, hO.rs hk.1 (by have := h.le; omega), hG, hF⟩
  · refine ⟨[], fun V hf => (hall_no s V (h1.keep hf (by simp))).mono ?_, fun V hf => (kall_nil V).mono ?_⟩
    · rintro e w1 ⟨rfl, rfl⟩; exact ⟨none, 0, 0, rfl, ⟨[], nil _, nil2 _, rfl, Nat.zero_le _, by simp⟩, Fr.refl _ _⟩
    · rintro e w1 ⟨rfl, rfl⟩; exact ⟨none, 0, 0, [], rfl, rfl, nil2 _, rfl, Fr.refl _ _⟩
theorem pr_dump (h : Pr9 w0 w s r n Own) (hn : n < 3518437208800) (k : Int) (ns : List Int) : ∃ kv,
    (∀ V, Fr [] w V → ∀ (bo : Option Addr) (Mn cb : Nat), IRs V bo ns → Mn = ns.length → Calls Tryz.prog 68 #[.pointer s, .int .i64 k, .slice bo Mn cb] V fun e w' => ∃ ro N rc, e = .returned (.slice ro N rc) ∧ HSame V w' ro N rc n kv ∧ Fr [] V w') ∧
      ∀ V, Fr [] w V → ∀ (bo : Option Addr) (Mn cb : Nat), IRs V bo ns → Mn = ns.length → Calls Tryz.prog 38 #[.pointer r, .int .i64 k, .slice bo Mn cb] V fun e w' => ∃ ro N rc hs, e = .returned (.slice ro N rc) ∧ N = hs.length ∧ HRs w' ro hs ∧ hs.map hkv = kv ∧ Fr [] V w' := by
  have nil : ∀ V W : World, HOut V W none 0 0 [] := fun V W => ⟨rfl, World.ownsRow_nil _ _ _ _, by simp, List.Pairwise.nil⟩
  have nil2 : ∀ V : World, HRs V none [] := fun V => ⟨fun h => by simp at h, by simp, by simp⟩
  rcases h with ⟨sb, b, g, N, lc, lo, hs, rfl, rfl, h⟩ | ⟨h1, rfl, h3, h4⟩
  · refine ⟨hs.filterMap (duOf k ns), fun V hf bo Mn cb hI hM => (hdump_any k bo Mn cb ns V (h.sh.keep hf) (by omega) hI hM).mono ?_, fun V hf bo Mn cb hI hM => (kdump_any (h.ks.keep hf) k bo Mn cb ns hI hM).mono ?_⟩
    · rintro e w1 ⟨ro, R, rc, ps, rfl, hO, hR, hP, hF⟩
      have hl : LoOk ps := hP.ok (fun k hk => (h.ks.ok.2 _ (mOf_ne hk).choose_spec.1).1 |> fun q => by rw [(mOf_ne hk).choose_spec.2] at q; exact q) (fun q => okV_sub (mOf_ok h.ks.ok q) (dmp_sub (mOf_ok h.ks.ok q) k ns))
      obtain ⟨qs, hq⟩ : ∃ qs : List Hd, qs.map hkv = hs.filterMap (duOf k ns) := ⟨(hs.filterMap (duOf k ns)).map fun p => ⟨p.1, none, 0, 0, p.2⟩, by simp [List.map_map, Function.comp_def, hkv]⟩
      exact ⟨ro, R, rc, rfl, ⟨ps, hO, hO.rs hl (by omega), by rw [← hq]; exact hP.one (duOf_is h.ks.ok k ns hq), hR, fun x hx => by have := okV_few (hl.2 x hx).2.2; omega⟩, hF⟩
    · rintro e w1 ⟨ro, R, rc, gs, rfl, hO, hR, hG, hF⟩
      exact ⟨ro, R, rc, gs, rfl, hO.len, hO.rs (by have := h.le; omega), hG, hF⟩
  · refine ⟨[], fun V hf bo Mn cb hI hM => (hdump_no s V (h1.keep hf (by simp)) k bo Mn cb).mono ?_, fun V hf bo Mn cb hI hM => (kdump_nil V k bo Mn cb).mono ?_⟩
    · rintro e w1 ⟨rfl, hF⟩; exact ⟨none, 0, 0, rfl, ⟨[], nil _ _, nil2 _, rfl, Nat.zero_le _, by simp⟩, hF⟩
    · rintro e w1 ⟨rfl, rfl⟩; exact ⟨none, 0, 0, [], rfl, rfl, nil2 _, rfl, Fr.refl _ _⟩
end
end Go.Proofs.YtomajifklajilaaGreat
