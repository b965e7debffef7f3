/- Texts of this claim laid together, one behind the other: contracts and plain lemmas; conditions as each names them. -/
import Derived.Test.YtpdkdgmaofhlkaaGreatDoorGp32
/- A task of the program with all that it has found: in memory of its own. Conditions as each names them. -/
namespace Go.Proofs.YtpdkdgmaofhlkaaGreatDoor
open Go.ChangeShapes Go.WideShapes Go.ChangeAt Go.RowKit Go.Lib Go.Sort
set_option linter.unusedVariables false
set_option linter.unusedSimpArgs false

/-- What a task of kind k takes of its replies. -/
def fE (k : Int) (xs : List Rx) : List Ey := if k = 1 then xs.flatMap (fun x => if x.es.length = 1 then x.es else []) else if k = 2 then xs.flatMap Rx.es else []
def fH (k : Int) (xs : List Rx) : List Hd := if k = 4 then xs.flatMap Rx.hs else []
theorem fE_ans (k : Int) (xs : List Rx) (h : k = 1 → xs.length ≤ 1) : sortB Ey.key (fE k xs) = ansE k xs := by
  unfold fE ansE
  by_cases h1 : k = 1
  · rw [if_pos h1, if_pos h1]
    match xs, h h1 with
    | [], _ => rfl
    | [x], _ =>
      simp only [List.flatMap_cons, List.flatMap_nil, List.append_nil]
      by_cases hx : x.es.length = 1
      · rw [if_pos hx]
        obtain ⟨y, hy⟩ := List.length_eq_one_iff.1 hx
        rw [hy]
        rfl
      · rw [if_neg hx]; rfl
  · rw [if_neg h1, if_neg h1]
    by_cases h2 : k = 2
    · rw [if_pos h2, if_pos h2]
    · rw [if_neg h2, if_neg h2]; rfl
theorem fH_ans (k : Int) (xs : List Rx) : sortB Hd.key (fH k xs) = ansH k xs := by
  unfold fH ansH
  by_cases h : k = 4
  · rw [if_pos h, if_pos h]
  · rw [if_neg h, if_neg h]; rfl
theorem sort_kv {al bs : List Hd} (h : al.map Hd.kv = bs.map Hd.kv) : (sortB Hd.key al).map Hd.kv = (sortB Hd.key bs).map Hd.kv := by
  have e : ∀ l : List Hd, (sortB Hd.key l).map Hd.kv = sortB (fun p : ByteArray × List Vn => p.1) (l.map Hd.kv) := fun l => sortB_map Hd.key (fun p : ByteArray × List Vn => p.1) Hd.kv (fun x => rfl) l
  rw [e, e, h]
/-- A task of the program; B: the blocks that it takes besides its own. -/
structure PM (w : World) (B : List Nat) (t : Nat) (T : Tk) (bs : List Int) (xs : List Rx) : Prop where
  tk : TkM w t T
  tB : t ∉ B
  lt : ∀ b ∈ B, b < w.heap.size
  rp : T.rp = xs.length
  ct : T.ct = ansC T.k xs
  bo : w.ownsRow 0 3 1 (.slice T.r.bo T.r.bl T.r.bc) T.r.bl (intsC bs)
  bl : T.r.bl = bs.length
  bm : T.r.bl ≤ 131072
  bb : ∀ a, T.r.bo = some a → a.block ∈ B
  ex : ∃ els elh, FE w B T.ev els ∧ FH w B T.hv elh ∧ flaE els = fE T.k xs ∧ (flaH elh).map Hd.kv = (fH T.k xs).map Hd.kv ∧ els.length ≤ xs.length ∧ elh.length ≤ xs.length
theorem PM.bk {w : World} {B : List Nat} {t : Nat} {T : Tk} {bs : List Int} {xs : List Rx} (h : PM w B t T bs xs) {k : Nat} (hk : (Value.slice T.r.bo T.r.bl T.r.bc).ownBlock = some k) : k ∈ B := by
  cases hv : T.r.bo with
  | none => rw [hv] at hk; simp [Value.ownBlock] at hk
  | some a => rw [hv] at hk; simp [Value.ownBlock] at hk; subst hk; exact h.bb a hv
theorem PM.irs {w : World} {B : List Nat} {t : Nat} {T : Tk} {bs : List Int} {xs : List Rx} (h : PM w B t T bs xs) : IRs w T.r.bo bs := irs_owns17 h.bo (by have := h.bl; have := h.bm; omega)
theorem PM.keep {S : List Nat} {w w' : World} {B : List Nat} {t : Nat} {T : Tk} {bs : List Int} {xs : List Rx} (h : PM w B t T bs xs) (hf : Fr S w w') (ht : t ∉ S) (hB : ∀ b ∈ B, b ∉ S) : PM w' B t T bs xs := by
  obtain ⟨els, elh, h1, h2, h3, h4, h5, h6⟩ := h.ex
  exact ⟨h.tk.keep hf ht, h.tB, fun b hb => Nat.lt_of_lt_of_le (h.lt b hb) hf.size, h.rp, h.ct, owns_keepB h.bo hf (fun k hk => hB _ (PM.bk h hk)), h.bl, h.bm, h.bb, els, elh, h1.keep hf hB, h2.keep hf hB, h3, h4, h5, h6⟩
theorem ansC_nil (k : Int) : ansC k [] = 0 := by
  unfold ansC
  by_cases h3 : k = 3
  · rw [if_pos h3]; rfl
  · rw [if_neg h3]
/-- One that New has just made. -/
theorem PM.new {w : World} {t : Nat} {n l s x q k : Int} {key en : ByteArray} (h : TkM w t (Tk.new n l s x q k key en)) : PM w [] t (Tk.new n l s x q k key en) [] [] := by
  refine ⟨h, by simp, by simp, rfl, (ansC_nil k).symm, ⟨rfl, .inl ⟨rfl, rfl⟩⟩, rfl, Nat.zero_le _, fun a ha => (by cases ha), [], [], FE.nil _ _, FH.nil _ _, ?_, ?_, by simp, by simp⟩
  · simp [flaE, fE]
  · simp [flaH, fH]
/-- It has begun. -/
theorem PM.begun {w w' : World} {B : List Nat} {t : Nat} {T : Tk} {xs : List Rx} {bs0 bs : List Int} (h : PM w B t T bs0 xs) {ma : Int} {r : Rv} (hk : TkM w' t { T with bg := true, ma := ma, r := r }) (hr : r.bl = bs.length) (hrm : r.bl ≤ 131072) (ho : w'.ownsRow w.heap.size 3 1 (.slice r.bo r.bl r.bc) r.bl (intsC bs)) (hf : Fr [t] w w') :
    PM w' (B ++ obs (.slice r.bo r.bl r.bc)) t { T with bg := true, ma := ma, r := r } bs xs ∧ ∀ b ∈ B ++ obs (.slice r.bo r.bl r.bc), b ∈ B ∨ w.heap.size ≤ b := by
  have hB : ∀ b ∈ B, b ∉ [t] := fun b hb hm => h.tB (by rw [← List.mem_singleton.1 hm]; exact hb)
  obtain ⟨els, elh, h1, h2, h3, h4, h5, h6⟩ := h.ex
  have hnew : ∀ b ∈ obs (.slice r.bo r.bl r.bc), w.heap.size ≤ b ∧ b < w'.heap.size := fun b hb => by
    obtain ⟨q1, cur, q2⟩ := owns_cells ho ((obs_iff _ _).1 hb)
    exact ⟨q1, lt_of_block q2⟩
  have hlt := h.tk.lt
  have hsub : ∀ b ∈ B, b ∈ B ++ obs (.slice r.bo r.bl r.bc) := fun b hb => List.mem_append_left _ hb
  refine ⟨⟨hk, fun hm => ?_, fun b hb => ?_, h.rp, h.ct, owns_zero ho, hr, hrm, fun a ha => ?_, els, elh, (h1.keep hf hB).more hsub, ⟨(h2.keep hf hB).row, fun k hk => hsub k ((h2.keep hf hB).rb k hk), (h2.keep hf hB).each, fun e he k hk => hsub k ((h2.keep hf hB).eb e he k hk), fun e he y hy => ⟨((h2.keep hf hB).vers e he y hy).1, fun a ha => hsub _ (((h2.keep hf hB).vers e he y hy).2 a ha)⟩⟩, h3, h4, h5, h6⟩, fun b hb => ?_⟩
  · rcases List.mem_append.1 hm with e | e
    · exact h.tB e
    · have := (hnew t e).1; omega
  · rcases List.mem_append.1 hb with e | e
    · exact Nat.lt_of_lt_of_le (h.lt b e) hf.size
    · exact (hnew b e).2
  · refine List.mem_append_right _ ((obs_iff _ _).2 ?_)
    rw [ha]
    rfl
  · rcases List.mem_append.1 hb with e | e
    · exact Or.inl e
    · exact Or.inr (hnew b e).1
theorem adqE_fr {W w' : World} {t : Nat} {T : Tk} {so : Option Addr} {N c : Nat} {vs : List Value} {L : Nat} {Pk : World → World → Option Addr → Nat → Prop} (h : AdqE W w' t T so N c vs L Pk) : Fr (t :: (Value.slice so N c).ownBlock.toList) W w' := by
  obtain ⟨so', c', ro, rc, V, w1, _, _, _, hf, hf1, hf2, _⟩ := h.ex
  exact ((hf.then hf1).mono (by intro z hz; simp at hz)).then hf2
theorem adqH_fr {W w' : World} {t : Nat} {T : Tk} {so : Option Addr} {N c : Nat} {vs : List Value} {L : Nat} {Pk : World → World → Option Addr → Nat → Prop} (h : AdqH W w' t T so N c vs L Pk) : Fr (t :: (Value.slice so N c).ownBlock.toList) W w' := by
  obtain ⟨so', c', ro, rc, V, w1, _, _, _, hf, hf1, hf2, _⟩ := h.ex
  exact ((hf.then hf1).mono (by intro z hz; simp at hz)).then hf2
theorem FE.keepT {S : List Nat} {w w' : World} {B : List Nat} {v : Value} {els : List ElE} (h : FE w B v els) (hf : Fr S w w') (hS : ∀ k ∈ S, ∀ cur, w.heap[k]? ≠ some (.cells cur 50 (0, 0)) ∧ w.heap[k]? ≠ some (.cells cur 102 (0, 0))) : FE w' B v els :=
  ⟨owns_keepT h.row hf (fun k hk cur => (hS k hk cur).1), h.rb, fun e he => ⟨owns_keepT (h.each e he).1 hf (fun k hk cur => (hS k hk cur).2), (h.each e he).2⟩, h.eb⟩
theorem FH.keepT {S : List Nat} {w w' : World} {B : List Nat} {v : Value} {els : List ElH} (h : FH w B v els) (hf : Fr S w w') (hS : ∀ k ∈ S, ∀ cur, w.heap[k]? ≠ some (.cells cur 51 (0, 0)) ∧ w.heap[k]? ≠ some (.cells cur 97 (0, 0)) ∧ w.heap[k]? ≠ some (.cells cur 134 (0, 0))) : FH w' B v els :=
  ⟨owns_keepT h.row hf (fun k hk cur => (hS k hk cur).1), h.rb, fun e he => ⟨owns_keepT (h.each e he).1 hf (fun k hk cur => (hS k hk cur).2.1), (h.each e he).2⟩, h.eb, fun e he x hx => ⟨(h.vers e he x hx).1.keepT hf (fun k hk cur => (hS k hk cur).2.2), (h.vers e he x hx).2⟩⟩
theorem FH.more {w : World} {B B' : List Nat} {v : Value} {els : List ElH} (h : FH w B v els) (hB : ∀ b ∈ B, b ∈ B') : FH w B' v els := ⟨h.row, fun k hk => hB k (h.rb k hk), h.each, fun e he k hk => hB k (h.eb e he k hk), fun e he x hx => ⟨(h.vers e he x hx).1, fun a ha => hB _ ((h.vers e he x hx).2 a ha)⟩⟩
/-- What taking a reply leaves. -/
def GotP (w : World) (B : List Nat) (t : Nat) (T : Tk) (bs : List Int) (xs : List Rx) (w' : World) : Prop :=
  ∃ T' B', PM w' B' t T' bs xs ∧ T'.rp = T.rp + 1 ∧ (∃ ev hv ct, T' = { T with rp := T.rp + 1, ev := ev, hv := hv, ct := ct }) ∧ (∀ b ∈ B', b ∈ B ∨ w.heap.size ≤ b) ∧ Fr (t :: B) w w'
theorem fE_snoc (k : Int) (xs : List Rx) (x : Rx) : fE k (xs ++ [x]) = fE k xs ++ fE k [x] := by
  unfold fE
  by_cases h1 : k = 1
  · simp [h1]
  · by_cases h2 : k = 2 <;> simp [h1, h2]
theorem fH_snoc (k : Int) (xs : List Rx) (x : Rx) : fH k (xs ++ [x]) = fH k xs ++ fH k [x] := by
  unfold fH
  by_cases h1 : k = 4 <;> simp [h1]
theorem ansC_snoc (k : Int) (xs : List Rx) (x : Rx) (h : k ≠ 3) : ansC k (xs ++ [x]) = ansC k xs := by simp [ansC, h]
/-- The reply that is handed in: what its lists hold is what x says. -/
structure RtB (w : World) (t : Nat) (r : Rp) (x : Rx) (hs : List Hd) : Prop where
  re : ∀ W, Fr [t] w W → RrE W r.eo x.es
  le : r.el = x.es.length
  me : r.el ≤ 4194304
  rh : ∀ W, Fr [t] w W → RdH W r.ho hs
  lh : r.hl = hs.length
  mh : r.hl ≤ 4194304
  kv : hs.map Hd.kv = x.hs.map Hd.kv
  ct : r.ct = x.r.ct
set_option maxHeartbeats 1000000 in
theorem got_pm {w : World} {B : List Nat} {t : Nat} {T : Tk} {bs : List Int} {xs : List Rx} (h : PM w B t T bs xs) (hn : T.n < 0) (hc : okC T.k T.key T.en) (he : T.rp ≠ T.ak) (hrp : T.rp ≤ 15) (r : Rp) (x : Rx) (hs : List Hd) (hto : r.to_ = T.n) (hr : RtB w t r x hs) :
    Calls Tryz.prog 7 #[.pointer (some ⟨t, 0, none⟩), .agg r.a] w fun e w' => e = .returned (.int .i64 0) ∧ GotP w B t T bs (xs ++ [x]) w' := by
  have hxl : xs.length ≤ 15 := by have := h.rp; omega
  have htl := h.tk.lt
  have hS : ∀ z ∈ t :: B, z < w.heap.size := fun z hz => by
    rcases List.mem_cons.1 hz with e | e
    · rw [e]; exact htl
    · exact h.lt z e
  have hBt : ∀ b ∈ B, b ∉ [t] := fun b hb hm => h.tB (by rw [← List.mem_singleton.1 hm]; exact hb)
  obtain ⟨els, elh, h1, h2, h3, h4, h5, h6⟩ := h.ex
  refine qGot_ok r h.tk hn he (by omega) hto (GotP w B t T bs (xs ++ [x])) (fun W hk hf => ?_)
  have hE := h1.keep hf hBt
  have hH := h2.keep hf hBt
  have hbo := owns_keepB h.bo hf (fun k hk => hBt _ (h.bk hk))
  -- what all kinds have in common
  have key : ∀ (w' : World) (B' : List Nat) (els' : List ElE) (elh' : List ElH) (ev hv : Value) (ct : Int), TkM w' t { T with rp := T.rp + 1, ev := ev, hv := hv, ct := ct } → (∀ b ∈ B', b ∈ B ∨ (W.heap.size ≤ b ∧ b < w'.heap.size)) → (∀ b ∈ B, b ∈ B') → Fr (t :: B) W w' → ct = ansC T.k (xs ++ [x]) → FE w' B' ev els' → FH w' B' hv elh' → flaE els' = fE T.k (xs ++ [x]) → (flaH elh').map Hd.kv = (fH T.k (xs ++ [x])).map Hd.kv → els'.length ≤ xs.length + 1 → elh'.length ≤ xs.length + 1 → w'.ownsRow 0 3 1 (.slice T.r.bo T.r.bl T.r.bc) T.r.bl (intsC bs) → GotP w B t T bs (xs ++ [x]) w' ∧ w'.cell? ⟨t, 5, none⟩ = some (.int .u8 T.k) ∧ ∃ S, Fr S W w' ∧ ∀ z ∈ S, z < w.heap.size := by
    intro w' B' els' elh' ev hv ct hk' hb1 hb2 hF hct hFE hFH hfe hfh hle hlh hir
    refine ⟨⟨_, B', ⟨hk', fun hm => ?_, fun b hb => ?_, ?_, hct, hir, h.bl, h.bm, fun a ha => hb2 _ (h.bb a ha), els', elh', hFE, hFH, hfe, hfh, by simpa using hle, by simpa using hlh⟩, rfl, ⟨ev, hv, ct, rfl⟩, fun b hb => ?_, (hf.mono (by intro z hz _; simp at hz; simp [hz])).then hF⟩, hk'.c5, _, hF, hS⟩
    · rcases hb1 t hm with e | e
      · exact h.tB e
      · have := hf.size; omega
    · rcases hb1 b hb with e | e
      · have := h.lt b e; have := hf.size; have := hF.size; omega
      · exact e.2
    · show T.rp + 1 = _
      rw [h.rp]; simp
    · rcases hb1 b hb with e | e
      · exact Or.inl e
      · have := hf.size; exact Or.inr (by omega)
  have hwk : ∀ {V : World}, Fr [] W V → Fr [t] w V := fun hV => hf.then (hV.mono (by intro z hz; simp at hz))
  have hsame : ∀ {w' : World}, Fr [] W w' → GotP w B t T bs (xs ++ [x]) w' ∧ w'.cell? ⟨t, 5, none⟩ = some (.int .u8 T.k) ∧ (∃ S, Fr S W w' ∧ ∀ z ∈ S, z < w.heap.size) ∨ ¬ (fE T.k [x] = [] ∧ fH T.k [x] = [] ∧ T.k ≠ 3) := fun {w'} hW => by
    by_cases hq : fE T.k [x] = [] ∧ fH T.k [x] = [] ∧ T.k ≠ 3
    · obtain ⟨q1, q2, q3⟩ := hq
      exact Or.inl (key w' B els elh T.ev T.hv T.ct (hk.keep hW (by simp)) (fun b hb => Or.inl hb) (fun b hb => hb) (hW.mono (by intro z hz; simp at hz)) (by rw [ansC_snoc _ _ _ q3]; exact h.ct) (hE.keep hW (by simp)) (hH.keep hW (by simp)) (by rw [fE_snoc, q1, List.append_nil]; exact h3) (by rw [fH_snoc, q2, List.append_nil]; exact h4) (by omega) (by omega) (owns_keepB hbo hW (by simp)))
    · exact Or.inr hq
  obtain ⟨so, c, hev⟩ := hE.shape
  obtain ⟨so2, c2, hhv⟩ := hH.shape
  have hEr := hE
  rw [hev] at hEr
  have hHr := hH
  rw [hhv] at hHr
  -- entries are added
  have addEs : ∀ k : Int, k = T.k → (k = 2 ∨ (k = 1 ∧ r.el = 1)) → Calls Tryz.prog 21 #[.pointer (some ⟨t, 21, none⟩), .int .u8 k, .agg r.a] W fun e w' => (∃ v, e = .returned v) ∧ GotP w B t T bs (xs ++ [x]) w' ∧ w'.cell? ⟨t, 5, none⟩ = some (.int .u8 T.k) ∧ ∃ S, Fr S W w' ∧ ∀ z ∈ S, z < w.heap.size := by
    intro k hkk hkind
    refine (addE_of (T := { T with rp := T.rp + 1 }) r so els.length c (els.map ElE.v) (fun V w1 ro rc => w1.ownsRow V.heap.size 102 2 (.slice ro r.el rc) r.el (eysC x.es)) k hk hev hEr.row (by omega) hkind (fun V hV => cloneE_any r.eo r.el r.ec x.es V (hr.re V (hwk hV)) hr.le (by have := hr.me; omega))).mono ?_
    rintro e w' ⟨hv', ha⟩
    obtain ⟨v', y, B', q1, q2, q3, q4, q5, q6⟩ := FE.add hk hEr hr.le hr.me ha
    have hfine := adqE_fr ha
    have hTy : ∀ {e : TypeId}, e ≠ 82 → e ≠ 50 → ∀ z ∈ t :: (Value.slice so els.length c).ownBlock.toList, ∀ cur, W.heap[z]? ≠ some (.cells cur e (0, 0)) := fun he1 he2 z hz => by
      rcases List.mem_cons.1 hz with e | e
      · rw [e]; exact tk_ne hk he1
      · exact own_ne hEr.row he2 z e
    have hkv : (k = 2 → T.k = 2) ∧ (k = 1 → T.k = 1) := ⟨fun e => by omega, fun e => by omega⟩
    refine ⟨hv', key w' B' (els ++ [y]) elh v' T.hv T.ct q1 q4 q5 q6 ?_ q2 ((hH.keepT hfine (fun z hz cur => ⟨hTy (by decide) (by decide) z hz cur, hTy (by decide) (by decide) z hz cur, hTy (by decide) (by decide) z hz cur⟩)).more q5) ?_ ?_ (by simp; omega) (by omega) (owns_keepT hbo hfine (hTy (by decide) (by decide)))⟩
    · rw [ansC_snoc _ _ _ (by rcases hkind with e | ⟨e, _⟩ <;> omega)]; exact h.ct
    · rw [flaE_app, fE_snoc, h3, q3]
      congr 1
      rcases hkind with e | ⟨e, e2⟩
      · have := hkv.1 e; simp [fE, this]
      · have := hkv.2 e
        have hl : x.es.length = 1 := by have := hr.le; omega
        simp [fE, this, hl]
    · rw [fH_snoc]
      have : fH T.k [x] = [] := by unfold fH; rw [if_neg (by rcases hkind with e | ⟨e, _⟩ <;> omega)]
      rw [this, List.append_nil]; exact h4
  rcases hc with ⟨hk1, _⟩ | ⟨hk2, _⟩ | ⟨hk3 | hk4, _⟩
  · by_cases hel : r.el = 1
    · have := addEs 1 hk1.symm (Or.inr ⟨rfl, hel⟩)
      rw [hk1] at this ⊢
      exact this
    · have hne : x.es.length ≠ 1 := by have := hr.le; omega
      rw [hk1]
      refine (addE_no r hel hr.me).mono ?_
      rintro e w' ⟨hv', hW⟩
      rcases hsame hW with q | q
      · rw [hk1] at q; exact ⟨hv', q⟩
      · exact absurd ⟨by simp [fE, hk1, hne], by simp [fH, hk1], by omega⟩ q
  · have := addEs 2 hk2.symm (Or.inl rfl)
    rw [hk2] at this ⊢
    exact this
  · rw [hk3]
    refine (qadd3 (T := { T with rp := T.rp + 1 }) r hk).mono ?_
    rintro e w' ⟨hv', hk', hF⟩
    have q := key w' B els elh T.ev T.hv (wrap64 (T.ct + r.ct)) hk' (fun b hb => Or.inl hb) (fun b hb => hb) (hF.mono (by intro z hz _; simp at hz; simp [hz])) (by rw [h.ct, hr.ct]; simp [ansC, hk3]) (hE.keep hF hBt) (hH.keep hF hBt) (by rw [fE_snoc, h3]; simp [fE, hk3]) (by rw [fH_snoc, List.map_append, h4]; simp [fH, hk3]) (by omega) (by omega) (owns_keepB hbo hF (fun k hk => hBt _ (h.bk hk)))
    rw [hk3] at q
    exact ⟨hv', q⟩
  · rw [hk4]
    have hvs : ∀ z ∈ hs, z.vs.length ≤ 4398046511104 ∧ ∀ y ∈ z.vs, VEach y := fun z hz => ⟨((hr.rh W hf).each z hz).rs.few, ((hr.rh W hf).each z hz).rs.each⟩
    refine (addH_of (T := { T with rp := T.rp + 1 }) r so2 elh.length c2 (elh.map ElH.v) (fun V w1 ro rc => ∃ hs', HOut V w1 ro r.hl rc hs' ∧ hs'.map Hd.kv = hs.map Hd.kv) 4 hk hhv hHr.row (by omega) rfl (fun V hV => (copied_any r.ho r.hl r.hc hs V (hr.rh V (hwk hV)).rr hr.lh (by have := hr.mh; omega) (fun z hz => ⟨((hr.rh V (hwk hV)).each z hz).rs, ((hr.rh V (hwk hV)).each z hz).len⟩)).mono (by rintro e w' ⟨ro, rc, hs', h1, h2, h3, h4⟩; exact ⟨ro, rc, h1, ⟨hs', h2, h3⟩, h4⟩))).mono ?_
    rintro e w' ⟨hv', ha⟩
    obtain ⟨v', y, B', q1, q2, q3, q4, q5, q6⟩ := FH.add hk hHr hr.mh hvs ha
    have hfine := adqH_fr ha
    have hTy : ∀ {e : TypeId}, e ≠ 82 → e ≠ 51 → ∀ z ∈ t :: (Value.slice so2 elh.length c2).ownBlock.toList, ∀ cur, W.heap[z]? ≠ some (.cells cur e (0, 0)) := fun he1 he2 z hz => by
      rcases List.mem_cons.1 hz with e | e
      · rw [e]; exact tk_ne hk he1
      · exact own_ne hHr.row he2 z e
    have q := key w' B' els (elh ++ [y]) T.ev v' T.ct q1 q4 q5 q6 (by rw [ansC_snoc _ _ _ (by omega)]; exact h.ct) ((hE.keepT hfine (fun z hz cur => ⟨hTy (by decide) (by decide) z hz cur, hTy (by decide) (by decide) z hz cur⟩)).more q5) q2 (by rw [fE_snoc, h3]; simp [fE, hk4]) (by rw [flaH_app, fH_snoc, List.map_append, List.map_append, h4, q3, hr.kv]; simp [fH, hk4]) (by omega) (by simp; omega) (owns_keepT hbo hfine (hTy (by decide) (by decide)))
    rw [hk4] at q
    exact ⟨hv', q⟩
end Go.Proofs.YtpdkdgmaofhlkaaGreatDoor
