/- Texts of this claim laid together, one behind the other: contracts and plain lemmas; conditions as each names them. -/
import Derived.Test.YtpdkdgmaofhlkaaGp37
import Derived.Test.YtpdkdgmaofhlkaaGp38
import Derived.Test.YtpdkdgmaofhlkaaGp39
import Derived.Test.YtpdkdgmaofhlkaaGp40
import Derived.Test.YtpdkdgmaofhlkaaGp41
import Derived.Test.YtpdkdgmaofhlkaaGp42
import Derived.Test.YtpdkdgmaofhlkaaGp44
/- The document's task with all that it holds. Conditions as each names them. -/
namespace Go.Proofs.Ytpdkdgmaofhlkaa
open Go.ChangeShapes Go.WideShapes Go.ChangeAt Go.RowKit Go.Lib Go.Sort
set_option linter.unusedVariables false
set_option linter.unusedSimpArgs false

/-- The document's task; B: the blocks that it takes besides its own. -/
structure DM (w : World) (B : List Nat) (y : Nat) (Y : Yt) (le : Int) (ns shs : List Int) (rqs : List Rv) (xs : List Rx) : Prop where
  yt : YtM w y Y
  tB : y ∉ B
  lt : ∀ b ∈ B, b < w.heap.size
  sh : w.ownsRow 0 3 1 (.slice Y.so Y.sl Y.sc) Y.sl (intsC shs)
  shb : ∀ k, (Value.slice Y.so Y.sl Y.sc).ownBlock = some k → k ∈ B
  shl : Y.sl = shs.length
  rq : w.ownsRow 0 55 9 (.slice Y.ro Y.rl Y.rc) Y.rl (rqs.flatMap Rv.cs)
  rqb : ∀ k, (Value.slice Y.ro Y.rl Y.rc).ownBlock = some k → k ∈ B
  rql : Y.rl = rqs.length
  each : ∀ r ∈ rqs, RqOf Y.k Y.n Y.ma le Y.key Y.en ns r ∧ w.ownsRow 0 3 1 (.slice r.bo r.bl r.bc) r.bl (intsC (bsOf Y.k ns)) ∧ ∀ k, (Value.slice r.bo r.bl r.bc).ownBlock = some k → k ∈ B
  row : w.ownsRow 0 46 5 (.slice Y.po Y.pl Y.pc) Y.pl (rxC xs)
  rwb : ∀ k, (Value.slice Y.po Y.pl Y.pc).ownBlock = some k → k ∈ B
  pll : Y.pl = xs.length
theorem DM.keep {S : List Nat} {w w' : World} {B : List Nat} {y : Nat} {Y : Yt} {le : Int} {ns shs : List Int} {rqs : List Rv} {xs : List Rx} (h : DM w B y Y le ns shs rqs xs) (hf : Fr S w w') (hy : y ∉ S) (hB : ∀ b ∈ B, b ∉ S) : DM w' B y Y le ns shs rqs xs :=
  ⟨h.yt.keep hf hy, h.tB, fun b hb => Nat.lt_of_lt_of_le (h.lt b hb) hf.size, owns_keepB h.sh hf (fun k hk => hB k (h.shb k hk)), h.shb, h.shl, owns_keepB h.rq hf (fun k hk => hB k (h.rqb k hk)), h.rqb, h.rql, fun r hr => ⟨(h.each r hr).1, owns_keepB (h.each r hr).2.1 hf (fun k hk => hB k ((h.each r hr).2.2 k hk)), (h.each r hr).2.2⟩, owns_keepB h.row hf (fun k hk => hB k (h.rwb k hk)), h.rwb, h.pll⟩
theorem DM.new {w : World} {y : Nat} {n l s x q k : Int} {key en : ByteArray} (h : YtM w y (Yt.new n l s x q k key en)) : DM w [] y (Yt.new n l s x q k key en) 0 [] [] [] [] :=
  ⟨h, by simp, by simp, ⟨rfl, .inl ⟨rfl, rfl⟩⟩, fun k hk => by simp [Yt.new, Value.ownBlock] at hk, rfl, ⟨rfl, .inl ⟨rfl, rfl⟩⟩, fun k hk => by simp [Yt.new, Value.ownBlock] at hk, rfl, by simp, ⟨rfl, .inl ⟨rfl, rfl⟩⟩, fun k hk => by simp [Yt.new, Value.ownBlock] at hk, rfl⟩
theorem DM.rys {w0 w : World} {B : List Nat} {y : Nat} {Y : Yt} {le : Int} {ns shs : List Int} {rqs : List Rv} {xs : List Rx} (h : DM w B y Y le ns shs rqs xs) (hf : Fr [] w0 w) (hX : ∀ x ∈ xs, RxB w0 x) (hx : xs.length ≤ 16) : Rys w Y xs := ⟨h.row, h.pll, by rw [h.pll]; exact hx, fun x hm => (hX x hm).keep hf⟩
/-- It has begun. -/
theorem DM.begun {w w' : World} {B : List Nat} {y : Nat} {Y : Yt} {le0 : Int} {ns0 shs0 : List Int} {rqs0 : List Rv} {xs : List Rx} (h : DM w B y Y le0 ns0 shs0 rqs0 xs) {ma le : Int} {ns : List Int} {so : Option Addr} {sc : Nat} {ro : Option Addr} {rc nR : Nat} {shs : List Int} {rqs : List Rv} (hb : Bi w w' y Y ma le ns so nR sc ro nR rc shs rqs) (hr : rqs.length = nR) (hs : shs.length = nR) :
    ∃ B', DM w' B' y { Y with bg := true, ma := ma, so := so, sl := nR, sc := sc, ro := ro, rl := nR, rc := rc } le ns shs rqs xs ∧ ∀ b ∈ B', b ∈ B ∨ w.heap.size ≤ b := by
  have hBy : ∀ b ∈ B, b ∉ [y] := fun b hb hm => h.tB (by rw [← List.mem_singleton.1 hm]; exact hb)
  have htl := h.yt.lt
  have hobs : ∀ {e : TypeId} {size n : Nat} {v : Value} {vs : List Value}, w'.ownsRow 0 e size v n vs → (∀ k, v.ownBlock = some k → w.heap.size ≤ k) → ∀ b ∈ obs v, w.heap.size ≤ b ∧ b < w'.heap.size := fun ho hn b hb => by
    rw [obs_iff] at hb
    obtain ⟨_, cur, hc⟩ := owns_cells ho hb
    exact ⟨hn b hb, lt_of_block hc⟩
  have n1 := hobs hb.sh hb.shb
  have n2 := hobs hb.rq hb.rqb
  have n3 : ∀ r ∈ rqs, ∀ b ∈ obs (.slice r.bo r.bl r.bc), w.heap.size ≤ b ∧ b < w'.heap.size := fun r hr => hobs (hb.each r hr).2.1 (fun k hk => ((hb.each r hr).2.2 k hk).1)
  have hall : ∀ b ∈ B ++ (obs (.slice so nR sc) ++ (obs (.slice ro nR rc) ++ rqs.flatMap fun r => obs (.slice r.bo r.bl r.bc))), b ∈ B ∨ (w.heap.size ≤ b ∧ b < w'.heap.size) := fun b hb => by
    rcases List.mem_append.1 hb with e | e
    · exact Or.inl e
    · rcases List.mem_append.1 e with e | e
      · exact Or.inr (n1 b e)
      · rcases List.mem_append.1 e with e | e
        · exact Or.inr (n2 b e)
        · obtain ⟨r, hr, e⟩ := List.mem_flatMap.1 e
          exact Or.inr (n3 r hr b e)
  refine ⟨B ++ (obs (.slice so nR sc) ++ (obs (.slice ro nR rc) ++ rqs.flatMap fun r => obs (.slice r.bo r.bl r.bc))), ⟨hb.yt, fun hm => ?_, fun b hb' => ?_, hb.sh, fun k hk => ?_, hs.symm, hb.rq, fun k hk => ?_, hr.symm, fun r hr => ⟨(hb.each r hr).1, (hb.each r hr).2.1, fun k hk => ?_⟩, owns_keepB h.row hb.fr (fun k hk => hBy k (h.rwb k hk)), fun k hk => List.mem_append_left _ (h.rwb k hk), h.pll⟩, fun b hb' => ?_⟩
  · rcases hall y hm with e | e
    · exact h.tB e
    · omega
  · rcases hall b hb' with e | e
    · exact Nat.lt_of_lt_of_le (h.lt b e) hb.fr.size
    · exact e.2
  · exact List.mem_append_right _ (List.mem_append_left _ ((obs_iff _ _).2 hk))
  · exact List.mem_append_right _ (List.mem_append_right _ (List.mem_append_left _ ((obs_iff _ _).2 hk)))
  · exact List.mem_append_right _ (List.mem_append_right _ (List.mem_append_right _ (List.mem_flatMap.2 ⟨r, hr, (obs_iff _ _).2 hk⟩)))
  · rcases hall b hb' with e | e
    · exact Or.inl e
    · exact Or.inr e.1
/-- It has sent one more. -/
theorem DM.sent {w w' : World} {B : List Nat} {y : Nat} {Y : Yt} {le : Int} {ns shs : List Int} {rqs : List Rv} {xs : List Rx} (h : DM w B y Y le ns shs rqs xs) {a : Nat} (hk : YtM w' y { Y with ak := a }) (hf : Fr [y] w w') : DM w' B y { Y with ak := a } le ns shs rqs xs := by
  have hBy : ∀ b ∈ B, b ∉ [y] := fun b hb hm => h.tB (by rw [← List.mem_singleton.1 hm]; exact hb)
  exact ⟨hk, h.tB, fun b hb => Nat.lt_of_lt_of_le (h.lt b hb) hf.size, owns_keepB h.sh hf (fun k hk => hBy k (h.shb k hk)), h.shb, h.shl, owns_keepB h.rq hf (fun k hk => hBy k (h.rqb k hk)), h.rqb, h.rql, fun r hr => ⟨(h.each r hr).1, owns_keepB (h.each r hr).2.1 hf (fun k hk => hBy k ((h.each r hr).2.2 k hk)), (h.each r hr).2.2⟩, owns_keepB h.row hf (fun k hk => hBy k (h.rwb k hk)), h.rwb, h.pll⟩
/-- It has taken a reply. -/
theorem DM.got {w w' : World} {B : List Nat} {y : Nat} {Y : Yt} {le : Int} {ns shs : List Int} {rqs : List Rv} {xs : List Rx} (h : DM w B y Y le ns shs rqs xs) {x : Rx} (hg : Gk w w' y Y x.r (rxC xs)) :
    ∃ B' po pc, DM w' B' y { Y with po := po, pl := Y.pl + 1, pc := pc } le ns shs rqs (xs ++ [x]) ∧ (∀ b ∈ B', b ∈ B ∨ w.heap.size ≤ b) ∧ Fr (y :: B) w w' := by
  obtain ⟨po, pc, hk, hrow, hf, hmv⟩ := hg.ex
  have hT : ∀ {e : TypeId}, e ≠ 79 → e ≠ 46 → ∀ z ∈ y :: (Value.slice Y.po Y.pl Y.pc).ownBlock.toList, ∀ cur, w.heap[z]? ≠ some (.cells cur e (0, 0)) := fun he1 he2 z hz => by
    rcases List.mem_cons.1 hz with e | e
    · rw [e]; exact yt_ne h.yt he1
    · exact own_ne h.row he2 z e
  have htl := h.yt.lt
  have hall : ∀ b ∈ B ++ obs (.slice po (Y.pl + 1) pc), b ∈ B ∨ (w.heap.size ≤ b ∧ b < w'.heap.size) := fun b hb => by
    rcases List.mem_append.1 hb with e | e
    · exact Or.inl e
    · rw [obs_iff] at e
      rcases hmv b e with e2 | e2
      · exact Or.inl (h.rwb b e2)
      · obtain ⟨_, cur, hc⟩ := owns_cells hrow e
        exact Or.inr ⟨e2, lt_of_block hc⟩
  refine ⟨B ++ obs (.slice po (Y.pl + 1) pc), po, pc, ⟨hk, fun hm => ?_, fun b hb => ?_, owns_keepT h.sh hf (hT (by decide) (by decide)), fun k hk => List.mem_append_left _ (h.shb k hk), h.shl, owns_keepT h.rq hf (hT (by decide) (by decide)), fun k hk => List.mem_append_left _ (h.rqb k hk), h.rql, fun r hr => ⟨(h.each r hr).1, owns_keepT (h.each r hr).2.1 hf (hT (by decide) (by decide)), fun k hk => List.mem_append_left _ ((h.each r hr).2.2 k hk)⟩, ?_, fun k hk => List.mem_append_right _ ((obs_iff _ _).2 hk), ?_⟩, fun b hb => ?_, hf.mono fun z hz _ => ?_⟩
  · rcases hall y hm with e | e
    · exact h.tB e
    · omega
  · rcases hall b hb with e | e
    · exact Nat.lt_of_lt_of_le (h.lt b e) hf.size
    · exact e.2
  · rw [rxC_snoc]; exact hrow
  · show Y.pl + 1 = _
    rw [h.pll]; simp
  · rcases hall b hb with e | e
    · exact Or.inl e
    · exact Or.inr e.1
  · rcases List.mem_cons.1 hz with e | e
    · simp [e]
    · exact List.mem_cons_of_mem _ (h.rwb z (Option.mem_toList.1 e))
/-- What the document's task answers, of whatever kind it is. -/
theorem yans_any {w : World} {t : Nat} {T : Yt} {xs : List Rx} (h : YtM w t T) (hk : okC T.k T.key T.en) (hal : T.al = true) (hR : Rys w T xs) : Calls Try.prog 34 #[.pointer (some ⟨t, 0, none⟩)] w (YansP T.k T.ma xs w) := by
  rcases hk with ⟨hk, _⟩ | ⟨hk, _⟩ | ⟨hk | hk, _⟩
  · rw [hk]; exact yans1 h hk hal hR
  · rw [hk]; exact yans2 h hk hal hR
  · rw [hk]; exact yans3 h hk hal hR
  · rw [hk]; exact yans4 h hk hal hR
theorem cs9 : ∀ (rqs : List Rv) (i j : Nat), i < rqs.length → j < 9 → (rqs.flatMap Rv.cs)[i * 9 + j]? = (rqs.getD i Rv.zero).cs[j]?
  | [], i, j, h, _ => by simp at h
  | r :: rqs, 0, j, _, hj => by
    rw [List.flatMap_cons, List.getElem?_append_left (by simp [Rv.cs]; omega)]
    simp
  | r :: rqs, i + 1, j, h, hj => by
    rw [List.flatMap_cons, List.getElem?_append_right (by simp [Rv.cs]; omega), show (i + 1) * 9 + j - r.cs.length = i * 9 + j by simp [Rv.cs]; omega, cs9 rqs i j (by simpa using h) hj]
    simp
/-- Its next request. -/
theorem dnext {w : World} {B : List Nat} {y : Nat} {Y : Yt} {le : Int} {ns shs : List Int} {rqs : List Rv} {xs : List Rx} (h : DM w B y Y le ns shs rqs xs) (hlt : Y.ak < Y.rl) (hrl : Y.rl ≤ 16) (hsl : Y.sl = Y.rl) :
    Calls Try.prog 32 #[.pointer (some ⟨y, 0, none⟩)] w fun e w' => e = .returned (.tuple #[.int .i64 (shs.getD Y.ak 0), Rv.v (rqs.getD Y.ak Rv.zero), .bool true]) ∧ Fr [] w w' := by
  have h1 := h.sh
  have h2 := h.rq
  obtain ⟨sb, hs, _⟩ := own_some h1 (by omega)
  obtain ⟨rb, hr, _⟩ := own_some h2 (by omega)
  rw [hs] at h1
  rw [hr] at h2
  have hak : Y.ak < rqs.length := by rw [← h.rql]; exact hlt
  have has : Y.ak < shs.length := by rw [← h.shl, hsl]; exact hlt
  exact ynext_any h.yt hlt hrl hsl _ _ sb rb hs hr (own_cell h1 (intsC_get shs Y.ak has)) (fun j u hu => by
    have hj : j < 9 := by have := (List.getElem?_eq_some_iff.1 hu).1; simpa [Rv.cs] using this
    exact own_cell h2 (by rw [cs9 rqs Y.ak j hak hj]; exact hu))
end Go.Proofs.Ytpdkdgmaofhlkaa
/- Both tasks side by side: what they say is the same. Conditions as each names them. -/
namespace Go.Proofs.Ytpdkdgmaofhlkaa
open Go.ChangeShapes Go.WideShapes Go.ChangeAt Go.RowKit Go.Lib Go.Sort
set_option linter.unusedVariables false
set_option linter.unusedSimpArgs false

/-- Both tasks say the same. -/
structure Lk (T : Tk) (Y : Yt) (le : Int) (ns bs shs : List Int) (rqs : List Rv) (xs : List Rx) : Prop where
  n : T.n < 0
  may : Cf.may ⟨T.l, T.s, T.x, T.q⟩
  okc : okC T.k T.key T.en
  yn : Y.n = T.n
  yl : Y.l = T.l
  ys : Y.s = T.s
  yx : Y.x = T.x
  yq : Y.q = T.q
  yk : Y.k = T.k
  ykey : Y.key = T.key
  yen : Y.en = T.en
  ybg : Y.bg = T.bg
  yma : Y.ma = T.ma
  yak : Y.ak = T.ak
  ak : T.ak ≤ T.nR
  xl : xs.length ≤ T.ak
  off : T.bg = false → T.ma = 0 ∧ T.ak = 0 ∧ T.r = Rv.zero ∧ bs = [] ∧ shs = [] ∧ rqs = [] ∧ (Y.so = none ∧ Y.sl = 0 ∧ Y.sc = 0 ∧ Y.ro = none ∧ Y.rl = 0 ∧ Y.rc = 0)
  on : T.bg = true → RqOf T.k T.n T.ma le T.key T.en ns T.r ∧ bs = bsOf T.k ns ∧ rqs.length = T.nR ∧ shs.length = T.nR ∧ ∀ i, i < T.nR → shs.getD i 0 = T.sh i
theorem Lk.ak16 {T : Tk} {Y : Yt} {le : Int} {ns bs shs : List Int} {rqs : List Rv} {xs : List Rx} (h : Lk T Y le ns bs shs rqs xs) : T.ak ≤ 16 := Nat.le_trans h.ak (T.nR_le h.may)
theorem Lk.x16 {T : Tk} {Y : Yt} {le : Int} {ns bs shs : List Int} {rqs : List Rv} {xs : List Rx} (h : Lk T Y le ns bs shs rqs xs) : xs.length ≤ 16 := Nat.le_trans h.xl h.ak16
theorem Lk.x1 {T : Tk} {Y : Yt} {le : Int} {ns bs shs : List Int} {rqs : List Rv} {xs : List Rx} (h : Lk T Y le ns bs shs rqs xs) (hk : T.k = 1) : xs.length ≤ 1 := by
  have h1 := h.ak
  have h2 := h.xl
  unfold Tk.nR at h1
  rw [if_pos hk] at h1
  omega
theorem one_le : ∀ xs : List Rx, (xs.flatMap (fun x => if x.es.length = 1 then x.es else [])).length ≤ (xs.flatMap Rx.es).length
  | [] => by simp
  | x :: xs => by
    have ih := one_le xs
    rw [List.flatMap_cons, List.flatMap_cons, List.length_append, List.length_append]
    refine Nat.add_le_add ?_ ih
    split
    · exact Nat.le_refl _
    · exact Nat.zero_le _
theorem ansE_few {w : World} {xs : List Rx} (k : Int) (hX : ∀ x ∈ xs, RxB w x) (hx : xs.length ≤ 16) : (ansE k xs).length ≤ 67108864 := by
  have h := es_bound hX xs.length
  rw [List.take_length] at h
  have h2 : xs.length * 4194304 ≤ 16 * 4194304 := Nat.mul_le_mul_right _ hx
  unfold ansE
  by_cases h1 : k = 1
  · rw [if_pos h1]; have := one_le xs; omega
  · rw [if_neg h1]
    by_cases h3 : k = 2
    · rw [if_pos h3, sortB_length]; omega
    · rw [if_neg h3]; simp
theorem ansH_few {w : World} {xs : List Rx} (k : Int) (hX : ∀ x ∈ xs, RxB w x) (hx : xs.length ≤ 16) : (ansH k xs).length ≤ 67108864 := by
  have h := hs_bound hX xs.length
  rw [List.take_length] at h
  have h2 : xs.length * 4194304 ≤ 16 * 4194304 := Nat.mul_le_mul_right _ hx
  unfold ansH
  by_cases h3 : k = 4
  · rw [if_pos h3, sortB_length]; omega
  · rw [if_neg h3]; simp
/-- What the program answers. -/
theorem pans {w : World} {B : List Nat} {t : Nat} {T : Tk} {bs : List Int} {xs : List Rx} (h : PM w B t T bs xs) (hn : T.n < 0) (hm : Cf.may ⟨T.l, T.s, T.x, T.q⟩) (hc : okC T.k T.key T.en) (hak : T.ak ≤ 16) (hx16 : xs.length ≤ 16) (hx1 : T.k = 1 → xs.length ≤ 1) (hal : T.al = true) :
    Calls Try.prog 22 #[.pointer (some ⟨t, 0, none⟩)] w (AnP 0 T.ma (ansOk T.k (ansE T.k xs).length) (ansC T.k xs) (ansE T.k xs) ((ansH T.k xs).map Hd.kv) w) := by
  obtain ⟨els, elh, h1, h2, h3, h4, h5, h6⟩ := h.ex
  have eE : sortB Ey.key (flaE els) = ansE T.k xs := by rw [h3]; exact fE_ans T.k xs hx1
  have eL : (flaE els).length = (ansE T.k xs).length := by rw [← eE, sortB_length]
  have eH : (sortB Hd.key (flaH elh)).map Hd.kv = (ansH T.k xs).map Hd.kv := by rw [sort_kv h4, fH_ans]
  have eM : (flaH elh).length = ((ansH T.k xs).map Hd.kv).length := by rw [← eH, List.length_map, sortB_length]
  refine (qAnswer_ok2 h.tk hn hm hc hak (by rw [h.rp]; exact hx16) hal (flaE els).length
    (fun W v => ∃ eo ec, v = .slice eo (flaE els).length ec ∧ W.ownsRow w.heap.size 85 2 (.slice eo (flaE els).length ec) (flaE els).length (eysC (sortB Ey.key (flaE els))))
    (fun W v => ∃ ro rc hs' W0, v = .slice ro (flaH elh).length rc ∧ w.heap.size < W0.heap.size ∧ HOut W0 W ro (flaH elh).length rc hs' ∧ hs'.map Hd.kv = (sortB Hd.key (flaH elh)).map Hd.kv)
    (fun W hW => (allE_any (h.tk.keep hW (by simp)) (h1.keep hW (by simp)) (by omega)).mono ?_) (fun W hW hlt => (allH_any (h.tk.keep hW (by simp)) (h2.keep hW (by simp)) (by omega)).mono ?_) ?_ ?_).mono ?_
  · rintro e w' ⟨eo, ec, rfl, ho, hf⟩
    exact ⟨eo, ec, rfl, ⟨eo, ec, rfl, own_base ho hW.size⟩, hf⟩
  · rintro e w' ⟨ro, rc, hs', rfl, ho, hkv, hf⟩
    exact ⟨_, rfl, ⟨ro, rc, hs', W, rfl, hlt, ho, hkv⟩, hf⟩
  · rintro W W' v S ⟨eo, ec, rfl, ho⟩ hf hS
    exact ⟨eo, ec, rfl, owns_keepT ho hf (fun k hk cur hcc => by
      obtain ⟨_, cs, hcs⟩ := hS k hk
      rw [hcs] at hcc
      simp only [Option.some.injEq, Obj.cells.injEq] at hcc
      exact absurd hcc.2.1 (by decide))⟩
  · rintro W W' v ⟨ro, rc, hs', W0, rfl, hlt, ho, hkv⟩ hf
    refine ⟨ro, rc, hs', W0, rfl, hlt, ⟨ho.len, owns_keepB ho.row hf (fun k hk hmm => ?_), fun x hx => (ho.each x hx).keepS hf (fun k hk hmm => ?_), ho.apart⟩, hkv⟩
    · have := (owns_cells ho.row hk).1
      simp at hmm
      omega
    · have := ((ho.each x hx).blk k hk).1
      simp at hmm
      omega
  · rintro e w' ⟨eo, ec, v, rfl, ⟨eo', ec', he1, ho⟩, ⟨ro, rc, hs', W0, rfl, _, hho, hkv⟩, hf⟩
    cases he1
    rw [eL, eE] at ho
    refine ⟨eo, ec, ro, rc, hs', ?_, RrE.of_own ho rfl, ⟨RrH.of_own hho.row hho.len, fun z hz => ?_⟩, by rw [hkv, eH], hf⟩
    · rw [eL, eM, h.ct]
    · have hm2 : z.kv ∈ (sortB Hd.key (flaH elh)).map Hd.kv := by rw [← hkv]; exact List.mem_map.2 ⟨z, hz, rfl⟩
      obtain ⟨q, hq, e⟩ := List.mem_map.1 hm2
      obtain ⟨el, hel, hqe⟩ := List.mem_flatMap.1 (sortB_mem Hd.key hq)
      have e2 : q.vs = z.vs := (Prod.mk.inj e).2
      have hw := (h2.vers el hel q hqe).1
      exact ⟨(hho.each z hz).rs (by rw [← e2]; exact hw.few) (by rw [← e2]; exact hw.each), (hho.each z hz).len⟩
theorem ok_same {T : Tk} {xs : List Rx} (hx : T.k = 1 → xs.length = 1) : ansOk T.k (ansE T.k xs).length = ansB T.k xs := by
  unfold ansOk ansB ansE
  by_cases h1 : T.k = 1
  · rw [if_pos h1, if_pos h1]
    obtain ⟨x, rfl⟩ := List.length_eq_one_iff.1 (hx h1)
    simp only [List.flatMap_cons, List.flatMap_nil, List.append_nil, List.foldl_cons, List.foldl_nil, h1]
    by_cases hl : x.es.length = 1
    · rw [if_pos hl]; simp [hl]
    · rw [if_neg hl]; simp [hl]
  · rw [if_neg h1]
    simp [h1]
end Go.Proofs.Ytpdkdgmaofhlkaa
/- Both tasks side by side: how they stand. Conditions as named. -/
namespace Go.Proofs.Ytpdkdgmaofhlkaa
open Go.ChangeShapes Go.WideShapes Go.ChangeAt Go.RowKit Go.Lib Go.Sort
set_option linter.unusedVariables false
set_option linter.unusedSimpArgs false

theorem RqOf.like {k n ma le : Int} {key en : ByteArray} {ns : List Int} {r s : Rv} (h : RqOf k n ma le key en ns r) (g : RqOf k n ma le key en ns s) : s.k = r.k ∧ s.f = r.f ∧ s.n = r.n ∧ s.key = r.key ∧ s.en = r.en ∧ s.bl = r.bl :=
  ⟨g.ek.trans h.ek.symm, g.ef.trans h.ef.symm, g.eN.trans h.eN.symm, g.ekey.trans h.ekey.symm, g.een.trans h.een.symm, g.ebl.trans h.ebl.symm⟩
theorem Lk.al {T : Tk} {Y : Yt} {le : Int} {ns bs shs : List Int} {rqs : List Rv} {xs : List Rx} (h : Lk T Y le ns bs shs rqs xs) (hrl : T.bg = true → Y.rl = T.nR) (hpl : Y.pl = T.rp) : Y.al = T.al := by
  unfold Yt.al Tk.al
  rw [h.ybg, h.yak, hpl]
  cases hb : T.bg with
  | false => simp
  | true =>
    rw [hrl hb]
    have := h.ak
    by_cases h1 : T.ak = T.nR
    · by_cases h2 : T.rp = T.ak
      · simp [h1, h2]
      · have e1 : ((T.rp : Int) == (T.ak : Int)) = false := by rw [beq_eq_false_iff_ne]; omega
        rw [e1]
        simp [h2]
    · have e1 : ((T.ak : Int) == (T.nR : Int)) = false := by rw [beq_eq_false_iff_ne]; omega
      rw [e1]
      have : T.ak < T.nR := by omega
      simp [this]
theorem stands_any {w0 w : World} {B1 B2 : List Nat} {t y : Nat} {T : Tk} {Y : Yt} {le : Int} {ns bs shs : List Int} {rqs : List Rv} {xs : List Rx} (h1 : PM w B1 t T bs xs) (h2 : DM w B2 y Y le ns shs rqs xs) (hl : Lk T Y le ns bs shs rqs xs) (hf0 : Fr [] w0 w) (hX : ∀ x ∈ xs, RxB w0 x) :
    Calls Try.prog 13 #[.pointer (some ⟨t, 0, none⟩), .pointer (some ⟨y, 0, none⟩)] w fun e w' => e = .returned (.bool true) ∧ Fr [] w w' := by
  have k1 : ∀ W, Fr [] w W → PM W B1 t T bs xs := fun W hW => h1.keep hW (by simp) (by simp)
  have k2 : ∀ W, Fr [] w W → DM W B2 y Y le ns shs rqs xs := fun W hW => h2.keep hW (by simp) (by simp)
  have hak := hl.ak16
  have hx16 := hl.x16
  have hnR := T.nR_le hl.may
  have hrl : T.bg = true → Y.rl = T.nR := fun hb => by rw [h2.rql]; exact (hl.on hb).2.2.1
  have hpl : Y.pl = T.rp := by rw [h2.pll, h1.rp]
  have hal := hl.al hrl hpl
  have hrp : T.rp ≤ 16 := by rw [h1.rp]; exact hx16
  have hA : ∀ W, Fr [] w W → Calls Try.prog 17 #[.pointer (some ⟨t, 0, none⟩)] W fun e w' => e = .returned (.bool T.al) ∧ Fr [] W w' := fun W hW => qAll_any (k1 W hW).tk hl.n hl.may hl.okc hak hrp
  have hYA : ∀ W, Fr [] w W → Calls Try.prog 33 #[.pointer (some ⟨y, 0, none⟩)] W fun e w' => e = .returned (.bool T.al) ∧ Fr [] W w' := fun W hW => by
    have := yall_any (k2 W hW).yt
    rw [hal] at this
    exact this
  have hM : ∀ W, Fr [] w W → Calls Try.prog 35 #[.pointer (some ⟨t, 0, none⟩)] W fun e w' => e = .returned (.tuple #[.int .i64 T.ma, .bool T.bg]) ∧ W = w' := fun W hW => qmark_any (k1 W hW).tk hl.n (fun hb => (hl.off hb).1)
  have hYM : ∀ W, Fr [] w W → Calls Try.prog 36 #[.pointer (some ⟨y, 0, none⟩)] W fun e w' => e = .returned (.tuple #[.int .i64 T.ma, .bool T.bg]) ∧ W = w' := fun W hW => by
    have := ymark_any (k2 W hW).yt (fun hb => by rw [hl.yma]; exact (hl.off (by rw [← hl.ybg]; exact hb)).1)
    rw [hl.yma, hl.ybg] at this
    exact this
  -- what Answer answers, by both
  obtain ⟨E, ama, ok, ct, es, kvs, hes, hkv, hN, hYN⟩ : ∃ (E ama : Int) (ok : Bool) (ct : Int) (es : List Ey) (kvs : List (ByteArray × List Vn)), es.length < 3518437208883 ∧ kvs.length ≤ 3518437208882 ∧ (∀ W, Fr [] w W → Calls Try.prog 22 #[.pointer (some ⟨t, 0, none⟩)] W (AnP E ama ok ct es kvs W)) ∧ (∀ W, Fr [] w W → Calls Try.prog 34 #[.pointer (some ⟨y, 0, none⟩)] W (AnP E ama ok ct es kvs W)) := by
    cases hb : T.al with
    | false =>
      refine ⟨6, 0, false, 0, [], [], by simp, by simp, fun W hW => ?_, fun W hW => ?_⟩
      · refine (qAnswer_ord (k1 W hW).tk hl.n hl.may hl.okc hak hrp hb).mono ?_
        rintro e w' ⟨rfl, hf⟩
        exact ⟨none, 0, none, 0, [], rfl, RrE.nil _ _, ⟨RrH.nil _ _, by simp⟩, rfl, hf⟩
      · refine (yans_ord (k2 W hW).yt (by rw [hal]; exact hb)).mono ?_
        rintro e w' ⟨rfl, hf⟩
        exact ⟨none, 0, none, 0, [], rfl, RrE.nil _ _, ⟨RrH.nil _ _, by simp⟩, rfl, hf⟩
    | true =>
      have hbb := of_decide_eq_true hb
      have hx1 : T.k = 1 → xs.length = 1 := fun hk => by
        have e1 : T.nR = 1 := if_pos hk
        have := hl.ak
        have := h1.rp
        omega
      refine ⟨0, T.ma, ansB T.k xs, ansC T.k xs, ansE T.k xs, (ansH T.k xs).map Hd.kv, by have := ansE_few T.k hX hx16; omega, by rw [List.length_map]; have := ansH_few T.k hX hx16; omega, fun W hW => ?_, fun W hW => ?_⟩
      · have := pans (k1 W hW) hl.n hl.may hl.okc hak hx16 hl.x1 hb
        rw [ok_same hx1] at this
        exact this
      · have := yans_any (k2 W hW).yt (by rw [hl.yk, hl.ykey, hl.yen]; exact hl.okc) (by rw [hal]; exact hb) ((k2 W hW).rys (hf0.then hW) hX hx16)
        rw [hl.yk, hl.yma] at this
        refine this.mono ?_
        rintro e w' ⟨eo, ec, ho, hc, rfl, he, hh, hf⟩
        exact ⟨eo, ec, ho, hc, ansH T.k xs, by rw [List.length_map], he, hh, rfl, hf⟩
  by_cases hc : T.bg = true ∧ T.ak < T.nR
  · obtain ⟨hb, hlt⟩ := hc
    obtain ⟨o1, o2, o3, o4, o5⟩ := hl.on hb
    have hakr : T.ak < rqs.length := by rw [o3]; exact hlt
    have hrm : rqs.getD T.ak Rv.zero ∈ rqs := by simp [List.getD, hakr]
    have hR2 := (h2.each _ hrm).1
    rw [hl.yk, hl.yn, hl.yma, hl.ykey, hl.yen] at hR2
    obtain ⟨e1, e2, e3, e4, e5, e6⟩ := o1.like hR2
    have hbl : T.r.bl = bs.length := h1.bl
    refine stands_gen (T.sh T.ak) T.r.k T.r.f T.r.n T.r.key T.r.en bs true T.al E ama ok ct es kvs T.ma T.bg (by rw [← hbl]; exact h1.bm) hes hkv ?_ (fun W hW => ?_) hA hYA hN hYN hM hYM
    · refine (qNext_any h1.tk hl.n hl.may hl.okc hak h1.irs h1.bl h1.bm).mono ?_
      rintro e w' ⟨ro, rc, rfl, ho, hf⟩
      rw [show T.nxR = T.r from if_pos ⟨hb, hlt⟩, show T.nxBs bs = bs from if_pos ⟨hb, hlt⟩] at ho
      rw [hbl] at ho
      refine ⟨ro, rc, ?_, irs_owns17 ho (by have := h1.bm; omega), hf⟩
      rw [show T.nxS = T.sh T.ak from if_pos ⟨hb, hlt⟩, show T.nxR = T.r from if_pos ⟨hb, hlt⟩, show T.nxB = true from decide_eq_true ⟨hb, hlt⟩]
      simp only [Rv.v, hbl]
    · have hak2 : Y.ak < Y.rl := by rw [hl.yak, hrl hb]; exact hlt
      refine (dnext (k2 W hW) hak2 (by rw [hrl hb]; exact hnR) (by rw [h2.shl, o4, hrl hb])).mono ?_
      rintro e w' ⟨rfl, hf⟩
      have hI := (k2 W hW).each _ hrm
      have ho := hI.2.1
      rw [hl.yk, ← o2] at ho
      refine ⟨(rqs.getD T.ak Rv.zero).bo, (rqs.getD T.ak Rv.zero).bc, ?_, (irs_owns17 ho (by have := h1.bm; omega)).keep hf, hf⟩
      rw [hl.yak, o5 T.ak hlt]
      simp only [Rv.v, e1, e2, e3, e4, e5, e6, hbl]
  · refine stands_gen 0 0 0 0 ⟨#[]⟩ ⟨#[]⟩ [] false T.al E ama ok ct es kvs T.ma T.bg (by simp) hes hkv ?_ (fun W hW => ?_) hA hYA hN hYN hM hYM
    · refine (qNext_any h1.tk hl.n hl.may hl.okc hak h1.irs h1.bl h1.bm).mono ?_
      rintro e w' ⟨ro, rc, rfl, ho, hf⟩
      refine ⟨ro, rc, ?_, ⟨fun h => by simp at h, by simp⟩, hf⟩
      rw [show T.nxS = 0 from if_neg hc, show T.nxR = Rv.zero from if_neg hc, show T.nxB = false from decide_eq_false hc]
      rfl
    · refine (ynext_idle (k2 W hW).yt ?_ (by rw [hl.yak]; exact hak)).mono ?_
      · rw [hl.yak]
        cases hb : T.bg with
        | false => rw [(hl.off hb).2.2.2.2.2.2.2.2.2.2.1]; exact Nat.zero_le _
        | true => rw [hrl hb]; exact Nat.le_of_not_lt (fun h => hc ⟨hb, h⟩)
      · rintro e w' ⟨rfl, hf⟩
        exact ⟨none, 0, rfl, ⟨fun h => by simp at h, by simp⟩, hf⟩
end Go.Proofs.Ytpdkdgmaofhlkaa
