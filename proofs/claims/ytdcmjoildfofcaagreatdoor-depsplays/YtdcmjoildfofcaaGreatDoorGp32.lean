/- Texts of this claim laid together, one behind the other: contracts and plain lemmas; conditions as each names them. -/
import Derived.Test.YtdcmjoildfofcaaGreatDoorGp6
import Derived.Test.YtdcmjoildfofcaaGreatDoorGp12
import Derived.Test.YtdcmjoildfofcaaGreatDoorGp30
import Derived.Test.YtdcmjoildfofcaaGreatDoorGp31
/- A Book's birth, what leaves it alone, what is told to it. Conditions as each names them. -/
namespace Go.Proofs.YtdcmjoildfofcaaGreatDoor.Bq
open Go.ChangeShapes Go.WideShapes Go.ChangeAt Go.RowKit Go.Lib
set_option linter.unusedVariables false
set_option linter.unusedSimpArgs false

/-- A Book that was told nothing. -/
def newBk : Array Value := #[.int .i64 0, .slice none 0 0, .slice none 0 0, .slice none 0 0, .slice none 0 0, .slice none 0 0, .slice none 0 0, .slice none 0 0, .slice none 0 0, .slice none 0 0, .slice none 0 0, .slice none 0 0]
theorem S0.none {K : Kd} {w : World} {bk : Nat} (h : w.heap[bk]? = some (.cells newBk 46 (0, 0))) (hc : newBk[K.col]? = some (.slice none 0 0)) : S0 K w bk (.slice none 0 0) [] :=
  ⟨⟨⟨newBk, h, hc⟩, World.ownsRow_nil _ _ _ _, by simp, by simp⟩, by simp, fun i j a b ha => by simp at ha, fun j h hh => by simp at hh⟩
theorem B4.new {w0 w : World} {bk : Nat} (h : w.heap[bk]? = some (.cells newBk 46 (0, 0))) (hb : w0.heap.size ≤ bk) : B4 w0 w bk 0 (.slice none 0 0) (.slice none 0 0) (.slice none 0 0) (.slice none 0 0) [] [] [] [] := by
  refine ⟨⟨newBk, ⟨h, rfl, ?_⟩, rfl⟩, S0.none h rfl, S0.none h rfl, S0.none h rfl, S0.none h rfl, hb, ?_, ?_, ?_, ?_, by simp, by simp, by simp, by simp⟩
  · rintro c (rfl | rfl | rfl | rfl | rfl | rfl | rfl) <;> rfl
  all_goals (intro k hk; simp [Value.ownBlock] at hk)
theorem own_base8 {w : World} {base : Nat} {e : TypeId} {size : Nat} {v : Value} {n : Nat} {xs : List Value} (h : w.ownsRow base e size v n xs) : w.ownsRow 0 e size v n xs := by
  refine ⟨h.1, ?_⟩
  rcases h.2 with h0 | ⟨g, cap, cur, hv, _, hr⟩
  · exact Or.inl h0
  · exact Or.inr ⟨g, cap, cur, hv, Nat.zero_le _, hr⟩
theorem S0.keepN {K : Kd} {S : List Nat} {w w' : World} {bk : Nat} {rv : Value} {hs : List HB} (h : S0 K w bk rv hs) (hf : Fr S w w') (hb : bk ∉ S) (hr : ∀ k, rv.ownBlock = some k → k ∉ S) (hl : ∀ k ∈ lbs hs, k ∉ S) : S0 K w' bk rv hs := by
  obtain ⟨cs, h1, h2⟩ := h.bl.box
  exact ⟨⟨⟨cs, hf.keep h1 hb, h2⟩, owns_keep h.bl.row hf hr, h.bl.few, h.bl.num⟩, fun j b hj => (h.each j b hj).keep hf (fun k hk => hl k (mem_lbs.2 ⟨b, List.mem_of_getElem? hj, hk⟩)), h.alone, h.fresh⟩
section
variable {S : List Nat} {w1 w w' : World} {bk T : Nat} {rB rI rW rT : Value} {hB hI hW hT : List HB}
/-- All a Book's blocks. -/
def kbs (bk : Nat) (rB rI rW rT : Value) (hB hI hW hT : List HB) : List Nat := bk :: own4 rB rI rW rT hB hI hW hT
theorem mem_kbs {k : Nat} : k ∈ kbs bk rB rI rW rT hB hI hW hT ↔ k = bk ∨ ((rB.ownBlock = some k ∨ k ∈ lbs hB) ∨ (rI.ownBlock = some k ∨ k ∈ lbs hI) ∨ (rW.ownBlock = some k ∨ k ∈ lbs hW) ∨ (rT.ownBlock = some k ∨ k ∈ lbs hT)) := by
  simp only [kbs, own4, List.mem_cons, List.mem_append, Option.mem_toList]
theorem B4.keepN (h : B4 w1 w bk T rB rI rW rT hB hI hW hT) (hf : Fr S w w') (hS : ∀ j ∈ kbs bk rB rI rW rT hB hI hW hT, j ∉ S) : B4 w1 w' bk T rB rI rW rT hB hI hW hT := by
  obtain ⟨cs, hX, hc⟩ := h.box
  have hb : bk ∉ S := hS bk (mem_kbs.2 (Or.inl rfl))
  exact ⟨⟨cs, hX.keep hf hb, hc⟩, h.sB.keepN hf hb (fun k hk => hS k (mem_kbs.2 (Or.inr (Or.inl (Or.inl hk))))) (fun k hk => hS k (mem_kbs.2 (Or.inr (Or.inl (Or.inr hk))))),
    h.sI.keepN hf hb (fun k hk => hS k (mem_kbs.2 (Or.inr (Or.inr (Or.inl (Or.inl hk)))))) (fun k hk => hS k (mem_kbs.2 (Or.inr (Or.inr (Or.inl (Or.inr hk)))))),
    h.sW.keepN hf hb (fun k hk => hS k (mem_kbs.2 (Or.inr (Or.inr (Or.inr (Or.inl (Or.inl hk))))))) (fun k hk => hS k (mem_kbs.2 (Or.inr (Or.inr (Or.inr (Or.inl (Or.inr hk))))))),
    h.sT.keepN hf hb (fun k hk => hS k (mem_kbs.2 (Or.inr (Or.inr (Or.inr (Or.inr (Or.inl hk))))))) (fun k hk => hS k (mem_kbs.2 (Or.inr (Or.inr (Or.inr (Or.inr (Or.inr hk))))))), h.bn, h.rBn, h.rIn, h.rWn, h.rTn, h.lB, h.lI, h.lW, h.lT⟩
theorem lbs_lt {K : Kd} {rv : Value} {hs : List HB} (h : S0 K w bk rv hs) {k : Nat} (hk : k ∈ lbs hs) : k < w.heap.size := by
  obtain ⟨b, hb, hb2⟩ := mem_lbs.1 hk
  obtain ⟨j, hj⟩ := List.getElem?_of_mem hb
  obtain ⟨cs, hc⟩ := (h.each j b hj).type k hb2
  exact lt_of_block hc
theorem B4.lt (h : B4 w1 w bk T rB rI rW rT hB hI hW hT) : ∀ k ∈ kbs bk rB rI rW rT hB hI hW hT, k < w.heap.size := by
  intro k hk
  obtain ⟨cs, hX, hc⟩ := h.box
  rcases mem_kbs.1 hk with rfl | (e | e) | (e | e) | (e | e) | (e | e)
  · exact lt_of_block hX.box
  · exact (h.sB.bl.row.lt k e).2
  · exact lbs_lt h.sB e
  · exact (h.sI.bl.row.lt k e).2
  · exact lbs_lt h.sI e
  · exact (h.sW.bl.row.lt k e).2
  · exact lbs_lt h.sW e
  · exact (h.sT.bl.row.lt k e).2
  · exact lbs_lt h.sT e
theorem lbs_snoc {hs : List HB} {x : HB} {k : Nat} (h : k ∈ lbs (hs ++ [x])) : k ∈ lbs hs ∨ x.l.ownBlock = some k := by
  obtain ⟨y, hy, hy2⟩ := mem_lbs.1 h
  rcases List.mem_append.1 hy with e | e
  · exact Or.inl (mem_lbs.2 ⟨y, e, hy2⟩)
  · rw [List.mem_singleton] at e; subst e; exact Or.inr hy2
theorem moved_of {n : Nat} {v v' : Value} (h : Moved n v v') {k : Nat} (hk : v'.ownBlock = some k) : v.ownBlock = some k ∨ n ≤ k := by
  rcases h with e | ⟨q, e, hq⟩
  · exact Or.inl (e ▸ hk)
  · rw [e] at hk; cases hk; exact Or.inr hq
end
end Go.Proofs.YtdcmjoildfofcaaGreatDoor.Bq
/- Both tables, one that is not there, and a Book beside them: what each call leaves. Conditions as each names them. -/
namespace Go.Proofs.YtdcmjoildfofcaaGreatDoor
open Go.ChangeShapes Go.WideShapes Go.ChangeAt Go.RowKit Go.Lib Go.Maps
set_option linter.unusedVariables false
set_option linter.unusedSimpArgs false

/-- What the law keeps without its Book. -/
structure Sn (w0 w : World) (tb g z n : Nat) (B RA : List Nat) : Prop where
  bp : ∃ L en, Bp w tb g B RA n L en
  zn : NoT w z
  dz : ∀ j, j ∈ B ∨ j ∈ RA → j ≠ z
  nw : ∀ j, j = z ∨ j ∈ B ∨ j ∈ RA → w0.heap.size ≤ j
  fr : Fr [] w0 w
/-- And with it; KB: the Book's blocks. -/
structure St (w0 w1 w : World) (tb g z bk T n : Nat) (B RA KB : List Nat) : Prop where
  sn : Sn w0 w tb g z n B RA
  bo : ∃ rB rI rW rT hI hW, Bq.B4 w1 w bk T rB rI rW rT [] hI hW [] ∧ KB = Bq.kbs bk rB rI rW rT [] hI hW []
  d1 : ∀ j, j = z ∨ j ∈ B ∨ j ∈ RA → j ∉ KB
  nk : ∀ j ∈ KB, w0.heap.size ≤ j
section
variable {w0 w1 w w' : World} {tb g z bk T n : Nat} {B RA KB : List Nat}
theorem Sn.lt (h : Sn w0 w tb g z n B RA) : ∀ j, j = z ∨ j ∈ B ∨ j ∈ RA → j < w.heap.size := by
  obtain ⟨L, en, hb⟩ := h.bp
  rintro j (rfl | hj)
  · exact lt_of_block h.zn
  · exact hb.mine j hj
theorem Sn.keep {S : List Nat} (h : Sn w0 w tb g z n B RA) (hf : Fr S w w') (h1 : ∀ j, j = z ∨ j ∈ B ∨ j ∈ RA → j ∉ S) (h2 : ∀ j ∈ S, w0.heap.size ≤ j) : Sn w0 w' tb g z n B RA := by
  obtain ⟨L, en, hb⟩ := h.bp
  exact ⟨⟨L, en, hb.keep hf (fun j hj => h1 j (Or.inr (Or.inl hj))) (fun j hj => h1 j (Or.inr (Or.inr hj)))⟩, h.zn.keep hf (h1 z (Or.inl rfl)), h.dz, h.nw, h.fr.on hf h2⟩
theorem Sn.quiet (h : Sn w0 w tb g z n B RA) (hf : Fr [] w w') : Sn w0 w' tb g z n B RA := h.keep hf (by simp) (by simp)
theorem St.klt (h : St w0 w1 w tb g z bk T n B RA KB) : ∀ j ∈ KB, j < w.heap.size := by
  obtain ⟨rB, rI, rW, rT, hI, hW, hb, rfl⟩ := h.bo
  exact hb.lt
theorem St.quiet (h : St w0 w1 w tb g z bk T n B RA KB) (hf : Fr [] w w') : St w0 w1 w' tb g z bk T n B RA KB := by
  obtain ⟨rB, rI, rW, rT, hI, hW, hb, rfl⟩ := h.bo
  exact ⟨h.sn.quiet hf, ⟨rB, rI, rW, rT, hI, hW, hb.keepN hf (by simp), rfl⟩, h.d1, h.nk⟩
/-- Behind a call of both tables. -/
theorem St.next {B' RA' : List Nat} {n' : Nat} {L' : Lg} {en' : Int → Prop} (h : St w0 w1 w tb g z bk T n B RA KB) (hf : Fr (B ++ RA) w w') (hb : Bp w' tb g B' RA' n' L' en') (h1 : ∀ j ∈ B', j ∈ B ∨ w.heap.size ≤ j) (h2 : ∀ j ∈ RA', j ∈ RA ∨ w.heap.size ≤ j) : St w0 w1 w' tb g z bk T n' B' RA' KB := by
  obtain ⟨rB, rI, rW, rT, hI, hW, hbk, rfl⟩ := h.bo
  have hlt := h.sn.lt
  have hklt := h.klt
  have hcase : ∀ j, j ∈ B' ∨ j ∈ RA' → (j ∈ B ∨ j ∈ RA) ∨ w.heap.size ≤ j := fun j hj => by
    rcases hj with hj | hj
    · rcases h1 j hj with e | e
      · exact Or.inl (Or.inl e)
      · exact Or.inr e
    · rcases h2 j hj with e | e
      · exact Or.inl (Or.inr e)
      · exact Or.inr e
  refine ⟨⟨⟨L', en', hb⟩, h.sn.zn.keep hf (fun hm => h.sn.dz z (by simpa using hm) rfl), fun j hj => ?_, fun j hj => ?_, h.sn.fr.on hf (fun j hj => h.sn.nw j (Or.inr (by simpa using hj)))⟩, ⟨rB, rI, rW, rT, hI, hW, hbk.keepN hf (fun j hj hm => h.d1 j (Or.inr (by simpa using hm)) hj), rfl⟩, fun j hj hm => ?_, h.nk⟩
  · rcases hcase j hj with e | e
    · exact h.sn.dz j e
    · have := hlt z (Or.inl rfl); omega
  · rcases hj with rfl | hj
    · exact h.sn.nw j (Or.inl rfl)
    · rcases hcase j hj with e | e
      · exact h.sn.nw j (Or.inr e)
      · have := h.sn.fr.size; omega
  · rcases hj with rfl | hj
    · exact h.d1 j (Or.inl rfl) hm
    · rcases hcase j hj with e | e
      · exact h.d1 j (Or.inr e) hm
      · have := hklt j hm; omega
theorem st_tellI (h : St w0 w1 w tb g z bk T n B RA KB) {base : Nat} {o : Option Addr} {N c : Nat} {xs : List Int} (hO : IOw base w o N c xs) (hN : N ≤ 65536) (hd : ∀ k, (Value.slice o N c).ownBlock = some k → ¬ (k = z ∨ k ∈ B ∨ k ∈ RA) ∧ k ∉ KB ∧ w0.heap.size ≤ k) (hT : T < 2097150) :
    Calls Tryz.prog 18 #[.pointer (some ⟨bk, 0, none⟩), .slice o N c] w fun e w' => e = .returned (.tuple #[]) ∧ ∃ KB', St w0 w1 w' tb g z bk (T + 1) n B RA KB' := by
  obtain ⟨rB, rI, rW, rT, hI, hW, hb, rfl⟩ := h.bo
  refine (Bq.ints_any hb o N c ⟨N, ints xs, Bq.own_base8 hO.row, by omega⟩ (fun k hk hm => (hd k hk).2.1 (Bq.mem_kbs.2 (Or.inr (Or.inr (Or.inl (Or.inr hm)))))) hT).mono ?_
  rintro e w' ⟨rfl, rv', hb', hF, hMv⟩
  have hFk : ∀ j ∈ bk :: rI.ownBlock.toList, j ∈ Bq.kbs bk rB rI rW rT [] hI hW [] := fun j hj => by
    rcases List.mem_cons.1 hj with rfl | hj
    · exact Bq.mem_kbs.2 (Or.inl rfl)
    · exact Bq.mem_kbs.2 (Or.inr (Or.inr (Or.inl (Or.inl (Option.mem_toList.1 hj)))))
  have hnk : ∀ j ∈ Bq.kbs bk rB rv' rW rT [] (hI ++ [⟨.slice o N c, .slice none 0 0, T + 1⟩]) hW [], j ∈ Bq.kbs bk rB rI rW rT [] hI hW [] ∨ (Value.slice o N c).ownBlock = some j ∨ w.heap.size ≤ j := fun j hj => by
    rcases Bq.mem_kbs.1 hj with e | e | (e | e) | e
    · exact Or.inl (Bq.mem_kbs.2 (Or.inl e))
    · exact Or.inl (Bq.mem_kbs.2 (Or.inr (Or.inl e)))
    · rcases Bq.moved_of hMv e with e2 | e2
      · exact Or.inl (Bq.mem_kbs.2 (Or.inr (Or.inr (Or.inl (Or.inl e2)))))
      · exact Or.inr (Or.inr e2)
    · rcases Bq.lbs_snoc e with e2 | e2
      · exact Or.inl (Bq.mem_kbs.2 (Or.inr (Or.inr (Or.inl (Or.inr e2)))))
      · exact Or.inr (Or.inl e2)
    · exact Or.inl (Bq.mem_kbs.2 (Or.inr (Or.inr (Or.inr e))))
  have hlt := h.sn.lt
  refine ⟨rfl, _, h.sn.keep hF (fun j hj hm => h.d1 j hj (hFk j hm)) (fun j hj => h.nk j (hFk j hj)), ⟨rB, rv', rW, rT, _, hW, hb', rfl⟩, fun j hj hm => ?_, fun j hj => ?_⟩
  · rcases hnk j hm with e | e | e
    · exact h.d1 j hj e
    · exact (hd j e).1 hj
    · have := hlt j hj; omega
  · rcases hnk j hj with e | e | e
    · exact h.nk j e
    · exact (hd j e).2.2
    · have := h.sn.fr.size; omega
theorem twin_owns {w : World} {b L : Nat} {ws : List Wt} (h : w.heap[b]? = some (.cells (wtsC (ws ++ [spW])).toArray 82 (0, 0))) (hL : L = ws.length) (hm : L < 2^21) : w.ownsRow 0 82 3 (.slice (some ⟨b, 0, none⟩) L (L + 1)) L (wtsC ws) := by
  refine ⟨by rw [wtsC_length, hL], .inr ⟨b, L + 1, (wtsC (ws ++ [spW])).toArray, rfl, Nat.zero_le _, h, by omega, by simp only [maxLen]; omega, by simp [wtsC_length]; omega, ?_⟩⟩
  simp only [wtsC_append]
  rw [List.take_append_of_le_length (by rw [wtsC_length]; omega), List.take_of_length_le (by rw [wtsC_length]; omega)]
theorem st_tellT (h : St w0 w1 w tb g z bk T n B RA KB) (nn : Int) {b M : Nat} {ws : List Wt} (hr : w.heap[b]? = some (.cells (wtsC (ws ++ [spW])).toArray 82 (0, 0))) (hM : M = ws.length) (hMs : M < 2^21) (hd : ¬ (b = z ∨ b ∈ B ∨ b ∈ RA) ∧ b ∉ KB ∧ w0.heap.size ≤ b) (hT : T < 2097150) :
    Calls Tryz.prog 14 #[.pointer (some ⟨bk, 0, none⟩), .agg #[.int .i64 nn, .slice (some ⟨b, 0, none⟩) M (M + 1)]] w fun e w' => e = .returned (.tuple #[]) ∧ ∃ KB', St w0 w1 w' tb g z bk (T + 1) n B RA KB' := by
  obtain ⟨rB, rI, rW, rT, hI, hW, hb, rfl⟩ := h.bo
  refine (Bq.txn_any hb nn (some ⟨b, 0, none⟩) M (M + 1) ⟨M, wtsC ws, twin_owns hr hM hMs, by omega⟩ (fun k hk hm => hd.2.1 (Bq.mem_kbs.2 (Or.inr (Or.inr (Or.inr (Or.inl (Or.inr (by simp [Value.ownBlock] at hk; subst hk; exact hm)))))))) hT).mono ?_
  rintro e w' ⟨rfl, rv', hb', hF, hMv⟩
  have hFk : ∀ j ∈ bk :: rW.ownBlock.toList, j ∈ Bq.kbs bk rB rI rW rT [] hI hW [] := fun j hj => by
    rcases List.mem_cons.1 hj with rfl | hj
    · exact Bq.mem_kbs.2 (Or.inl rfl)
    · exact Bq.mem_kbs.2 (Or.inr (Or.inr (Or.inr (Or.inl (Or.inl (Option.mem_toList.1 hj))))))
  have hnk : ∀ j ∈ Bq.kbs bk rB rI rv' rT [] hI (hW ++ [⟨.slice (some ⟨b, 0, none⟩) M (M + 1), .slice none 0 0, T + 1⟩]) [], j ∈ Bq.kbs bk rB rI rW rT [] hI hW [] ∨ j = b ∨ w.heap.size ≤ j := fun j hj => by
    rcases Bq.mem_kbs.1 hj with e | e | e | (e | e) | e
    · exact Or.inl (Bq.mem_kbs.2 (Or.inl e))
    · exact Or.inl (Bq.mem_kbs.2 (Or.inr (Or.inl e)))
    · exact Or.inl (Bq.mem_kbs.2 (Or.inr (Or.inr (Or.inl e))))
    · rcases Bq.moved_of hMv e with e2 | e2
      · exact Or.inl (Bq.mem_kbs.2 (Or.inr (Or.inr (Or.inr (Or.inl (Or.inl e2))))))
      · exact Or.inr (Or.inr e2)
    · rcases Bq.lbs_snoc e with e2 | e2
      · exact Or.inl (Bq.mem_kbs.2 (Or.inr (Or.inr (Or.inr (Or.inl (Or.inr e2))))))
      · simp [Value.ownBlock] at e2; exact Or.inr (Or.inl e2.symm)
    · exact Or.inl (Bq.mem_kbs.2 (Or.inr (Or.inr (Or.inr (Or.inr e)))))
  have hlt := h.sn.lt
  refine ⟨rfl, _, h.sn.keep hF (fun j hj hm => h.d1 j hj (hFk j hm)) (fun j hj => h.nk j (hFk j hj)), ⟨rB, rI, rv', rT, hI, _, hb', rfl⟩, fun j hj hm => ?_, fun j hj => ?_⟩
  · rcases hnk j hm with e | rfl | e
    · exact h.d1 j hj e
    · exact hd.1 hj
    · have := hlt j hj; omega
  · rcases hnk j hj with e | rfl | e
    · exact h.nk j e
    · exact hd.2.2
    · have := h.sn.fr.size; omega
theorem st_apart (h : St w0 w1 w tb g z bk T n B RA KB) (ht : Bq.Tab w0) : Calls Tryz.prog 8 #[.pointer (some ⟨bk, 0, none⟩)] w fun e w' => e = .returned (.bool true) ∧ Sn w0 w' tb g z n B RA := by
  obtain ⟨rB, rI, rW, rT, hI, hW, hb, rfl⟩ := h.bo
  obtain ⟨cs, hX, _⟩ := hb.box
  have hin : ∀ j ∈ Bq.own4 rB rI rW rT [] hI hW [], j ∈ Bq.kbs bk rB rI rW rT [] hI hW [] := fun j hj => List.mem_cons_of_mem _ hj
  refine (Bq.apart4_any bk cs rB rI rW rT [] hI hW [] w hX hb.sB hb.sI hb.sW hb.sT (ht.keep h.sn.fr (by simp)) (fun hm => by have := h.nk _ (hin _ hm); have := ht.lt; omega)).mono ?_
  rintro e w' ⟨rfl, hF⟩
  exact ⟨rfl, h.sn.keep hF (fun j hj hm => h.d1 j hj (hin j hm)) (fun j hj => h.nk j (hin j hj))⟩
/-- A new Book. -/
theorem st_born (h : Sn w0 w tb g z n B RA) : St w0 w (w.alloc (.cells Bq.newBk 46)) tb g z w.heap.size 0 n B RA [w.heap.size] := by
  have hF : Fr [] w (w.alloc (.cells Bq.newBk 46)) := Fr.alloc _ _ _
  refine ⟨h.quiet hF, ⟨_, _, _, _, [], [], Bq.B4.new (heap_alloc_new w _) (Nat.le_refl _), rfl⟩, fun j hj hm => ?_, fun j hj => ?_⟩
  · have := h.lt j hj
    simp at hm
    omega
  · simp at hj
    have := h.fr.size
    omega
end
end Go.Proofs.YtdcmjoildfofcaaGreatDoor
/- What an op asks of both tables, there or not, by one word. Conditions as each names them. -/
namespace Go.Proofs.YtdcmjoildfofcaaGreatDoor
open Go.ChangeShapes Go.WideShapes Go.ChangeAt Go.RowKit Go.Lib Go.Maps
set_option linter.unusedVariables false
set_option linter.unusedSimpArgs false

/-- Both sides answer every op alike, and leave what the law keeps. -/
structure Asks (w0 w1 : World) (p q : Option Addr) (tb g z bk : Nat) : Prop where
  add : ∀ (W : World) (T n : Nat) (B RA KB : List Nat), St w0 w1 W tb g z bk T n B RA KB → n < 1073741824 → ∀ (nn : Int) (wo ta : Option Addr) (M mc tc : Nat) (ws : List Wt), WRs W wo ws → WRs W ta ws → M = ws.length → i64 nn → (0 < ws.length → ∀ a, wo = some a → a.block ∉ B) → (0 < ws.length → ∀ a, ta = some a → a.block ∉ B) →
    ∃ (v er : Int), Calls Tryz.prog 11 #[.pointer p, .agg #[.int .i64 nn, .slice ta M tc]] W fun e W4 => e = .returned (.tuple #[.int .i64 v, .int .i64 er]) ∧ Fr (B ++ RA) W W4 ∧
      Calls Tryz.prog 12 #[.pointer q, .agg #[.int .i64 nn, .slice wo M mc]] W4 fun e W5 => e = .returned (.tuple #[.int .i64 v, .int .i64 er]) ∧ Fr (B ++ RA) W W5 ∧ ∃ B' RA' n', n' ≤ n + 65 ∧ St w0 w1 W5 tb g z bk T n' B' RA' KB ∧ ∀ j, j ∈ B' ∨ j ∈ RA' → (j ∈ B ∨ j ∈ RA) ∨ W.heap.size ≤ j
  done : ∀ (W : World) (T n : Nat) (B RA KB : List Nat), St w0 w1 W tb g z bk T n B RA KB → ∀ (x : Int), i64 x →
    ∃ (zs : List Int) (er : Int), zs.length ≤ 65536 ∧ Calls Tryz.prog 15 #[.pointer p, .int .i64 x] W fun e W4 => ∃ so N c, e = .returned (.tuple #[.slice so N c, .int .i64 er]) ∧ IOw W.heap.size W4 so N c zs ∧ Fr (B ++ RA) W W4 ∧
      Calls Tryz.prog 16 #[.pointer q, .int .i64 x] W4 fun e W5 => ∃ so2 N2 c2, e = .returned (.tuple #[.slice so2 N2 c2, .int .i64 er]) ∧ N2 = zs.length ∧ Is11 W5 so2 zs ∧ Fr (B ++ RA) W4 W5 ∧ ∃ B' RA', St w0 w1 W5 tb g z bk T n B' RA' KB ∧ ∀ j, j ∈ B' ∨ j ∈ RA' → (j ∈ B ∨ j ∈ RA) ∨ W4.heap.size ≤ j
  waits : ∀ (W : World) (T n : Nat) (B RA KB : List Nat), St w0 w1 W tb g z bk T n B RA KB → ∀ (x : Int), i64 x →
    ∃ (zs : List Int) (er : Int), zs.length ≤ 65536 ∧ Calls Tryz.prog 19 #[.pointer p, .int .i64 x] W (fun e W4 => ∃ so N c, e = .returned (.tuple #[.slice so N c, .int .i64 er]) ∧ IOw W.heap.size W4 so N c zs ∧ Fr [] W W4) ∧
      ∀ V, Fr [] W V → Calls Tryz.prog 20 #[.pointer q, .int .i64 x] V fun e W5 => ∃ so2 N2 c2, e = .returned (.tuple #[.slice so2 N2 c2, .int .i64 er]) ∧ N2 = zs.length ∧ Is11 W5 so2 zs ∧ Fr [] V W5
  opens : ∀ (W : World) (T n : Nat) (B RA KB : List Nat), St w0 w1 W tb g z bk T n B RA KB → n < 1073741824 →
    ∃ (zs : List Int), zs.length ≤ 65536 ∧ Calls Tryz.prog 23 #[.pointer p] W (fun e W4 => ∃ so N c, e = .returned (.slice so N c) ∧ IOw W.heap.size W4 so N c zs ∧ Fr [] W W4) ∧
      ∀ V, Fr [] W V → Calls Tryz.prog 24 #[.pointer q] V fun e W5 => ∃ so2 N2 c2, e = .returned (.slice so2 N2 c2) ∧ N2 = zs.length ∧ Is11 W5 so2 zs ∧ Fr [] V W5
  last : ∀ (W : World) (T n : Nat) (B RA KB : List Nat), St w0 w1 W tb g z bk T n B RA KB → ∀ (key : ByteArray), key.size ≤ 140737488355328 →
    ∃ v : Int, (∀ V, Fr [] W V → Calls Tryz.prog 21 #[.pointer p, .string key] V fun e w' => e = .returned (.int .i64 v) ∧ Fr [] V w') ∧ (∀ V, Fr [] W V → Calls Tryz.prog 22 #[.pointer q, .string key] V fun e w' => e = .returned (.int .i64 v) ∧ Fr [] V w')
theorem asks_live (w0 w1 : World) (tb g z bk : Nat) : Asks w0 w1 (some ⟨tb, 0, none⟩) (some ⟨g, 0, none⟩) tb g z bk := by
  refine ⟨?_, ?_, ?_, ?_, ?_⟩
  · intro W T n B RA KB h hn nn wo ta M mc tc ws hW hT hM hni hWB hTB
    obtain ⟨L, en, hb⟩ := h.sn.bp
    obtain ⟨v, er, hc⟩ := bp_add hb nn wo ta M mc tc ws hW hT hM hni hn hWB hTB
    refine ⟨v, er, hc.mono ?_⟩
    rintro e W4 ⟨rfl, hF, hc2⟩
    have hF4 : Fr (B ++ RA) W W4 := hF.mono (fun x hx _ => by simp [hx])
    refine ⟨rfl, hF4, hc2.mono ?_⟩
    rintro e W5 ⟨rfl, hF2, B', RA', L', en', hb', h1, h2⟩
    have hF5 : Fr (B ++ RA) W W5 := hF4.trans hF2 (fun x hx _ => hx) (fun x hx _ => by simp [hx])
    have h2' : ∀ j ∈ RA', j ∈ RA ∨ W.heap.size ≤ j := fun j hj => by
      rcases h2 j hj with e | e
      · exact Or.inl e
      · exact Or.inr (Nat.le_trans hF.size e)
    refine ⟨rfl, hF5, B', RA', n + 65, Nat.le_refl _, h.next hF5 hb' h1 h2', fun j hj => ?_⟩
    rcases hj with hj | hj
    · rcases h1 j hj with e | e
      · exact Or.inl (Or.inl e)
      · exact Or.inr e
    · rcases h2' j hj with e | e
      · exact Or.inl (Or.inr e)
      · exact Or.inr e
  · intro W T n B RA KB h x hx
    obtain ⟨L, en, hb⟩ := h.sn.bp
    obtain ⟨zs, er, hz, hc⟩ := bp_done hb x hx
    refine ⟨zs, er, hz, hc.mono ?_⟩
    rintro e W4 ⟨so, N, c, rfl, hO, hF, hc2⟩
    have hF4 : Fr (B ++ RA) W W4 := hF.mono (fun x hx _ => by simp [hx])
    refine ⟨so, N, c, rfl, hO, hF4, hc2.mono ?_⟩
    rintro e W5 ⟨so2, N2, c2, rfl, hO2, hF2, RA', L', en', hb', h2⟩
    have hF5 : Fr (B ++ RA) W W5 := hF4.trans hF2 (fun x hx _ => hx) (fun x hx _ => by simp [hx])
    refine ⟨so2, N2, c2, rfl, hO2.len, hO2.is, hF2.mono (fun x hx _ => by simp [hx]), B, RA', h.next hF5 hb' (fun j hj => Or.inl hj) (fun j hj => ?_), fun j hj => ?_⟩
    · rcases h2 j hj with e | e
      · exact Or.inl e
      · exact Or.inr (Nat.le_trans hF.size e)
    · rcases hj with hj | hj
      · exact Or.inl (Or.inl hj)
      · rcases h2 j hj with e | e
        · exact Or.inl (Or.inr e)
        · exact Or.inr e
  · intro W T n B RA KB h x hx
    obtain ⟨L, en, hb⟩ := h.sn.bp
    exact bp_waits hb x hx
  · intro W T n B RA KB h hn
    obtain ⟨L, en, hb⟩ := h.sn.bp
    obtain ⟨zs, hz, h1, h2⟩ := bp_open hb (by omega)
    refine ⟨zs, hz, h1, fun V hf => (h2 V hf).mono ?_⟩
    rintro e W5 ⟨so, N, c, rfl, hO, hF⟩
    exact ⟨so, N, c, rfl, hO.len, hO.is, hF⟩
  · intro W T n B RA KB h key hk
    obtain ⟨L, en, hb⟩ := h.sn.bp
    exact ⟨_, (bp_last hb key hk).1, (bp_last hb key hk).2⟩
theorem asks_none (w0 w1 : World) (tb g z bk : Nat) : Asks w0 w1 (some ⟨z, 0, none⟩) none tb g z bk := by
  have hnil : ∀ V : World, Is11 V none [] := fun V => ⟨fun h0 => by simp at h0⟩
  refine ⟨?_, ?_, ?_, ?_, ?_⟩
  · intro W T n B RA KB h hn nn wo ta M mc tc ws hW hT hM hni hWB hTB
    refine ⟨0, 2, (zadd_any nn ta M tc W h.sn.zn).mono ?_⟩
    rintro e W4 ⟨rfl, hF⟩
    refine ⟨rfl, hF.mono (by simp), (uadd_nil nn wo M mc W4).mono ?_⟩
    rintro e W5 ⟨rfl, hF2⟩
    exact ⟨rfl, (hF.then hF2).mono (by simp), B, RA, n, by omega, (h.quiet hF).quiet hF2, fun j hj => Or.inl hj⟩
  · intro W T n B RA KB h x hx
    refine ⟨[], 2, by simp, (zdone_any x W h.sn.zn).mono ?_⟩
    rintro e W4 ⟨rfl, hF⟩
    refine ⟨none, 0, 0, rfl, IOw.nil _ _, hF.mono (by simp), (udone_nil x W4).mono ?_⟩
    rintro e W5 ⟨rfl, hF2⟩
    exact ⟨none, 0, 0, rfl, rfl, hnil _, hF2.mono (by simp), B, RA, (h.quiet hF).quiet hF2, fun j hj => Or.inl hj⟩
  · intro W T n B RA KB h x hx
    refine ⟨[], 2, by simp, (zwaits_any x W h.sn.zn).mono ?_, fun V hf => (uwaits_nil x V).mono ?_⟩
    · rintro e W4 ⟨rfl, hF⟩
      exact ⟨none, 0, 0, rfl, IOw.nil _ _, hF⟩
    · rintro e W5 ⟨rfl, hF⟩
      exact ⟨none, 0, 0, rfl, rfl, hnil _, hF⟩
  · intro W T n B RA KB h hn
    refine ⟨[], by simp, (zopen_any W h.sn.zn).mono ?_, fun V hf => (uopen_nil V).mono ?_⟩
    · rintro e W4 ⟨rfl, hF⟩
      exact ⟨none, 0, 0, rfl, IOw.nil _ _, hF⟩
    · rintro e W5 ⟨rfl, hF⟩
      exact ⟨none, 0, 0, rfl, rfl, hnil _, hF⟩
  · intro W T n B RA KB h key hk
    exact ⟨0, fun V hf => zlast_any key V (h.sn.zn.keep hf (by simp)), fun V hf => ulast_nil key V⟩
end Go.Proofs.YtdcmjoildfofcaaGreatDoor
