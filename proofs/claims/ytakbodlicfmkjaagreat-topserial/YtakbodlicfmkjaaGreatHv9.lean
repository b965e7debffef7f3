/- Without what newer versions hide: mathematics; contract of a shard's Collect. Conditions as each names them. -/
import Derived.Test.YtakbodlicfmkjaaGreatHu9
namespace Go.Proofs.YtakbodlicfmkjaaGreat.O
open Go.ChangeShapes Go.WideShapes Go.ChangeAt Go.RowKit Go.Lib Go.Maps
set_option linter.unusedVariables false
set_option linter.unusedSimpArgs false

/-- How many versions of a key go. -/
def colN (vs : List Vn) (k : Int) : Nat := (vs.filter fun v => decide (v.num ≤ k)).length - 1
def colV (vs : List Vn) (k : Int) : List Vn := vs.drop (colN vs k)
theorem colN_upTo {vs : List Vn} {k : Int} {d : Nat} (h : UpTo vs k d) : colN vs k = d - 1 := by
  unfold colN
  rw [filt_upTo h, List.length_take]
  have := h.le
  omega
theorem col_told {vs : List Vn} {k : Int} {us : List Vn} {n c : Nat} (ho : okV vs) (h : CoTold vs k us n c) : us = colV vs k ∧ n = colN vs k ∧ c = 0 := by
  rcases h with ⟨_, h, _⟩ | ⟨hc, _, d, hd, h1, h2⟩
  · exact absurd ho h
  · have e := colN_upTo hd
    exact ⟨by rw [h2, h1]; unfold colV; rw [e], by rw [h1, e], hc⟩
theorem colV_len (vs : List Vn) (k : Int) : (colV vs k).length = vs.length - colN vs k := by simp [colV]
theorem colN_lt {vs : List Vn} (k : Int) (h : vs ≠ []) : colN vs k < vs.length := by
  unfold colN
  have := List.length_filter_le (fun v : Vn => decide (v.num ≤ k)) vs
  have := List.length_pos_iff.2 h
  omega
theorem colV_nil (k : Int) : colV [] k = [] := rfl
theorem colV_ne {vs : List Vn} (k : Int) : colV vs k ≠ [] ↔ vs ≠ [] := by
  constructor
  · rintro h rfl
    exact h rfl
  · intro h e
    have h1 := colV_len vs k
    have h2 := colN_lt k h
    rw [e] at h1
    simp at h1
    omega
theorem colV_ok {vs : List Vn} (h : okV vs) (k : Int) : okV (colV vs k) := okV_drop h _
/-- Nothing that is read at the mark or above changes. -/
theorem colV_val {vs : List Vn} (ho : okV vs) {k m : Int} (hkm : k ≤ m) : valAt (colV vs k) m = valAt vs m := by
  obtain ⟨d, hd⟩ := UpTo.ex ho.2 k
  obtain ⟨c, hc⟩ := UpTo.ex ho.2 m
  have hdc := hd.mono hc hkm
  have e : colV vs k = vs.drop (d - 1) := by unfold colV; rw [colN_upTo hd]
  have hD := hc.drop (d := d - 1) (by omega)
  unfold valAt
  rw [e, vAt_upTo hc, vAt_upTo hD]
  by_cases h0 : c = 0
  · rw [if_pos h0, if_pos (by omega)]
  · rw [if_neg h0, if_neg (by omega), atV_drop vs c (d - 1) (by omega)]
/-- At most one is left at the mark or below. -/
theorem colV_low {vs : List Vn} (ho : okV vs) (k : Int) : ((colV vs k).filter fun v => decide (v.num ≤ k)).length ≤ 1 := by
  obtain ⟨d, hd⟩ := UpTo.ex ho.2 k
  have e : colV vs k = vs.drop (d - 1) := by unfold colV; rw [colN_upTo hd]
  have hD := hd.drop (d := d - 1) (by omega)
  rw [e, filt_upTo hD, List.length_take]
  omega
/-- How many versions go of all keys. -/
def GoT (M : ByteArray → List Vn) (k : Int) (S : Nat) : Prop := ∃ ks : List ByteArray, ks.Nodup ∧ (∀ s, s ∈ ks ↔ M s ≠ []) ∧ S = (ks.map fun s => colN (M s) k).sum
theorem sum_same (f : ByteArray → Nat) {as' bs : List ByteArray} (ha : as'.Nodup) (hb : bs.Nodup) (h : ∀ x, x ∈ as' ↔ x ∈ bs) : (as'.map f).sum = (bs.map f).sum :=
  Nat.le_antisymm (sum_sub f as' bs ha fun x hx => (h x).1 hx) (sum_sub f bs as' hb fun x hx => (h x).2 hx)
theorem sum_add (f g h : ByteArray → Nat) (e : ∀ s, f s = g s + h s) : ∀ as' : List ByteArray, (as'.map f).sum = (as'.map g).sum + (as'.map h).sum
  | [] => rfl
  | a :: r => by
    have := sum_add f g h e r
    have := e a
    simp only [List.map_cons, List.sum_cons]
    omega
theorem GoT.size {M : ByteArray → List Vn} {k : Int} {S n n' : Nat} (h : GoT M k S) (h1 : SzT M n) (h2 : SzT (fun s => colV (M s) k) n') : n' + S = n := by
  obtain ⟨ks, hn, hk, rfl⟩ := h
  obtain ⟨k1, hn1, hk1, rfl⟩ := h1
  obtain ⟨k2, hn2, hk2, rfl⟩ := h2
  have e1 := sum_same (fun s => (M s).length) hn1 hn (fun x => (hk1 x).trans (hk x).symm)
  have e2 := sum_same (fun s => (colV (M s) k).length) hn2 hn (fun x => by rw [hk2 x, hk x]; exact colV_ne k)
  have e3 := sum_add (fun s => (M s).length) (fun s => (colV (M s) k).length) (fun s => colN (M s) k) (fun s => by
    rw [colV_len]
    by_cases h : M s = []
    · rw [h]; rfl
    · have := colN_lt k h; omega) ks
  show (k2.map fun s => (colV (M s) k).length).sum + _ = _
  omega
theorem owns_one {P : Program} {k : TypeId} {R : Value → Option (DataW Unit × List MemPlace)} {w : World} {b n m : Nat} {D D' : DataW Unit} (h : w.ownsMap P k R b n D) (h' : w.ownsMap P k R b m D') : D = D' := by
  obtain ⟨es, c, hb, _, _, rfl⟩ := h
  obtain ⟨es', c', hb', _, _, rfl⟩ := h'
  rw [hb] at hb'
  simp only [Option.some.injEq, Obj.map.injEq] at hb'
  obtain ⟨rfl, rfl⟩ := hb'
  rfl
/-- A shard's map, as a range over it sees it. -/
theorem Sh.datum {w0 w : World} {sb b n : Nat} {M : ByteArray → List Vn} (h : Sh w0 w sb b n M) {m : Nat} {D : DataW Unit} (hD : w.ownsMap Tryz.prog 9 slElem b m D) :
    (∀ s, has D (kl7 s) = true ↔ M s ≠ []) ∧ (∀ (s : ByteArray) (cv : Sl3), has D (kl7 s) = true → (∀ z, D.atKey (kl7 s) z = slD cv) → ∃ g L c, cv = some (g, L, c) ∧ VOut w0 w (some ⟨g, 0, none⟩) L c (M s) ∧ 0 < L ∧ okK9 s ∧ (Instr.lookup 238 (.map (some b)) (.string s) false).run Tryz.prog w = .ok (.slice (some ⟨g, 0, none⟩) L c) w) ∧ Sh w0 w sb b m M := by
  have hmap := h.map
  obtain ⟨G, hM, h0, hr, hu⟩ := hmap
  have hM2 := hM
  obtain ⟨D1, hD1, hH, hA⟩ := hM
  obtain rfl : D1 = D := owns_one hD1 hD
  refine ⟨fun s => ?_, fun s cv hh hat => ?_, ⟨h.box, h.sbn, h.bn, h.ok, G, ⟨D1, hD, hH, hA⟩, h0, hr, hu⟩⟩
  · rw [hH s]
    constructor
    · intro h1 e
      obtain ⟨⟨g, L, c⟩, hg⟩ := Option.isSome_iff_exists.1 h1
      obtain ⟨hV, hL, _⟩ := hr s g L c hg
      have := hV.len
      rw [e] at this
      simp at this
      omega
    · intro h1
      cases hg : G s with
      | some x => rfl
      | none => exact absurd (h0 s hg) h1
  · rw [hH s] at hh
    obtain ⟨⟨g, L, c⟩, hg⟩ := Option.isSome_iff_exists.1 hh
    have h2 := hA s hh (.lit (.bool true))
    rw [hat, hg] at h2
    obtain ⟨hV, hL, hk⟩ := hr s g L c hg
    refine ⟨g, L, c, slD_inj h2, hV, hL, hk, ?_⟩
    have := hM2.look s (by have := hk.2; unfold maxLen; omega)
    rw [hg] at this
    exact this
theorem FrS.on {w0 : World} {b : Nat} {w w1 w2 : World} {T : List Nat} (h : FrS w0 b w w1) (k : Fr T w1 w2) (hT : ∀ x ∈ T, w.heap.size ≤ x) : FrS w0 b w w2 := by
  obtain ⟨S, hS, hm⟩ := h
  refine ⟨S, hS.trans k (fun x hx _ => hx) (fun x hx hlt => by have := hT x hx; omega), fun hb => ⟨(hm hb).1, fun j hr => ?_⟩⟩
  exact (hm hb).2 j (hr.back k (fun hx => by have := hT b hx; omega) (Nat.lt_of_lt_of_le hb hS.size))
open Classical in
noncomputable def colM (M : ByteArray → List Vn) (k : Int) (ms : List ByteArray) : ByteArray → List Vn := fun s => if s ∈ ms then colV (M s) k else M s
theorem colM_in {M : ByteArray → List Vn} {k : Int} {ms : List ByteArray} {s : ByteArray} (h : s ∈ ms) : colM M k ms s = colV (M s) k := by unfold colM; rw [if_pos h]
theorem colM_out {M : ByteArray → List Vn} {k : Int} {ms : List ByteArray} {s : ByteArray} (h : s ∉ ms) : colM M k ms s = M s := by unfold colM; rw [if_neg h]
theorem colM_snoc (M : ByteArray → List Vn) (k : Int) (ms : List ByteArray) (s : ByteArray) (hs : s ∉ ms) : colM M k (ms ++ [s]) = updM (colM M k ms) s (colV (colM M k ms s) k) := by
  funext x
  unfold updM
  by_cases h1 : x = s
  · subst h1
    rw [if_pos rfl, colM_out hs, colM_in (by simp)]
  · rw [if_neg h1]
    by_cases h2 : x ∈ ms
    · rw [colM_in h2, colM_in (by simp [h2])]
    · rw [colM_out h2, colM_out (by simp [h1, h2])]
theorem has_put_any {D : DataW Unit} (hI : IsMap D) {kl : Lit} (hk : WideAt.IsKeyLit kl) (hh : has D kl = true) (d : DataW Unit) (x : ByteArray) (hx : kl7 x = kl ∨ kl7 x ≠ kl) : has (D.put kl d) (kl7 x) = has D (kl7 x) := by
  rcases hx with e | e
  · rw [e, has_put_same hI hk, hh]
  · rw [has_put_other e]
/-- Between two rounds of Collect. -/
structure CI (w0 w1 wr : World) (sb b n : Nat) (M : ByteArray → List Vn) (k : Int) (ms : List ByteArray) (S : Nat) : Prop where
  sh : Sh w0 wr sb b n (colM M k ms)
  fr : FrS w0 b w1 wr
  nd : ms.Nodup
  sum : S = (ms.map fun s => colN (M s) k).sum
set_option maxHeartbeats 8000000 in
set_option maxRecDepth 100000 in
theorem hcollect_any {w0 : World} {sb b n : Nat} {M : ByteArray → List Vn} (k : Int) (w : World) (h : Sh w0 w sb b n M) (h0 : w0.heap.size ≤ w.heap.size) (hn : n < 3518437208883) :
    Calls Tryz.prog 317 #[.pointer (some ⟨sb, 0, none⟩), .int .i64 k] w fun e w' => ∃ S : Nat, e = .returned (.int .i64 (S : Int)) ∧ GoT M k S ∧ S ≤ 65536 * n ∧ Sh w0 w' sb b n (fun s => colV (M s) k) ∧ FrS w0 b w w' := by
  have HT : Hid (Calls _ _ _ _ _) := hthere_any w h
  have HS0 : Hid (∀ W, Fr [] w W → Sh w0 W sb b n M) := fun W hf => h.keep hf
  have H0 : Hid (w0.heap.size ≤ w.heap.size) := h0
  clear h h0
  go_enter Tryz.func317, Tryz.ntmps317
  go_wp2_with fail
  refine Calls.mono HT.out ?_
  rintro e w1 ⟨rfl, hF1⟩
  have h := HS0.out _ hF1
  have cs := h.cell
  obtain ⟨D0, hown⟩ : ∃ D0, w1.ownsMap Tryz.prog 9 slElem b n D0 := by
    obtain ⟨G, ⟨D0, hown, _⟩, _⟩ := h.map
    exact ⟨D0, hown⟩
  have HFw : Hid (Fr [] w w1) := hF1
  have HSz : Hid (Maps.size D0 ≤ n) := hown.size_le
  have HK0 : Hid (∀ s, has D0 (kl7 s) = true ↔ M s ≠ []) := (h.datum hown).1
  have HS1 : Hid (Sh w0 w1 sb b n M) := h
  have Hsz1 : Hid (w0.heap.size ≤ w1.heap.size) := Nat.le_trans H0.out hF1.size
  clear h HT hF1 HS0
  go_wp2_with (first
    | (at_range; refine wpList_range_own _ rfl _ 238 rfl 9 124 Tryz.keyedStr Tryz.undVMap _ b n _ rfl hown ?_; intro w2 hrg0 hg0 hs0)
    | fail)
  go_frame
  have HC0 : Hid (CI w0 w1 w2 sb b n M k [] 0) := by
    have hf : Fr [] w1 w2 := Fr.grown hg0 (by simp)
    refine ⟨?_, FrS.of hf, List.nodup_nil, rfl⟩
    have e : colM M k [] = M := by funext s; exact colM_out (by simp)
    rw [e]
    exact HS1.out.keep hf
  have HH0 : Hid (∀ s, has D0 (kl7 s) = has D0 (kl7 s)) := fun _ => rfl
  have hcnt := HSz.out
  go_loopw [5] (fun nn wr => ∃ (left : Lit → Bool) (cnt S : Nat) (ms : List ByteArray) (D : DataW Unit), nn = .int .i64 S ∧ wr.ranges Tryz.prog 9 slElem b w1.heap.size n D left cnt ∧ ms.length + cnt ≤ n ∧ S ≤ 65536 * ms.length ∧ Hid (Collected D0 left (ms.map (·.data.toList))) ∧ Hid (∀ s, has D (kl7 s) = has D0 (kl7 s)) ∧ Hid (CI w0 w1 wr sb b n M k ms S))
    (fun _ wr => wr.rangeLeft b w1.heap.size)
  case atStart => exact ⟨_, _, 0, [], D0, rfl, hrg0, by simpa using hcnt, Nat.zero_le _, Collected.start D0, HH0, HC0⟩
  case round =>
    obtain ⟨left, cnt, S, ms, D, rfl, hrg, hmc, hSm, HC, HH, HI⟩ := hrel
    go_wp2_with (first
      | (at_next; refine wpList_next_ranges _ rfl _ rfl 9 Tryz.keyedStr slElem encStr slV (fun key kl hk => by obtain ⟨x, hx, _⟩ := Maps.keyOf_str Tryz.undStr hk; exact ⟨x, hx⟩) (fun v y hv => by obtain ⟨s, rfl, _⟩ := slElem_inv hv; exact ⟨s, rfl⟩) b w1.heap.size n _ _ _ rfl hrg ?_ ?_)
      | fail)
    · intro hc0 hl0
      have hmem : ∀ s, s ∈ ms ↔ M s ≠ [] := by
        intro s
        rw [← HK0.out s]
        have h1 := HC.out.2 s.data.toList
        constructor
        · intro hs
          exact (h1.1 (List.mem_map.2 ⟨s, hs, rfl⟩)).1
        · intro hs
          obtain ⟨q, hq, he⟩ := List.mem_map.1 (h1.2 ⟨hs, hl0 _⟩)
          rw [← bytes_eq he]
          exact hq
      have HR : Hid (GoT M k S ∧ S ≤ 65536 * n ∧ Sh w0 wr sb b n (fun s => colV (M s) k) ∧ FrS w0 b w wr) := by
        refine ⟨⟨ms, HI.out.nd, hmem, HI.out.sum⟩, Nat.le_trans hSm (Nat.mul_le_mul_left _ (by omega)), ?_, FrS.from HFw.out HI.out.fr⟩
        have e : colM M k ms = fun s => colV (M s) k := by
          funext s
          by_cases hs : s ∈ ms
          · rw [colM_in hs]
          · rw [colM_out hs]
            have : M s = [] := by
              by_cases e : M s = []
              · exact e
              · exact absurd ((hmem s).2 e) hs
            rw [this]
            rfl
        rw [← e]
        exact HI.out.sh
      clear hc0 hl0 HC HH HI hrg hrg0 hmem
      go_wp2
      go_ret
      exact ⟨S, rfl, HR.out⟩
    · intro x cv kl yd yp w3 cnt2 hkey hlk hv hat hrg2 hlt hg2 hs2 hen
      have hent := ranges_ent hrg hlk
      obtain ⟨x', ex, hkl, _⟩ := Maps.keyOf_str Tryz.undStr hkey
      obtain rfl : x = x' := encStr_inj ex
      subst hkl
      obtain ⟨s, hs, hsx, hks⟩ := encStr_bytes x
      have hhas : has D (.string x) = true := has_true_of_atKey hat
      have hhas0 : has D0 (.string x) = true := by
        have := HH.out s
        rw [hks] at this
        rw [← this]
        exact hhas
      have hnot : s ∉ ms := fun hm => by
        have h1 := (HC.out.2 x).1 (by rw [← hsx]; exact List.mem_map.2 ⟨s, hm, rfl⟩)
        rw [hlk] at h1
        exact absurd h1.2 (by simp)
      have HC2 : Hid (Collected D0 (fun z => left z && !z.sameKey (.string x)) ((ms ++ [s]).map (·.data.toList))) := by
        show Collected _ _ _
        have e : (ms ++ [s]).map (·.data.toList) = ms.map (·.data.toList) ++ [x] := by simp [hsx]
        rw [e]
        have hst := HC.out
        refine ⟨?_, fun z => ?_⟩
        · rw [List.nodup_append]
          refine ⟨hst.1, by simp, fun a ha b hb e2 => ?_⟩
          simp at hb
          subst hb
          subst e2
          have := ((hst.2 a).1 ha).2
          rw [hlk] at this
          cases this
        · rw [List.mem_append, hst.2 z]
          simp only [List.mem_singleton]
          by_cases hz : z = x
          · subst hz
            have : (Lit.string z).sameKey (.string z) = true := by simp [Lit.sameKey]
            simp [this, hhas0]
          · have : (Lit.string z).sameKey (.string x) = false := by simpa [Lit.sameKey] using hz
            simp [this, hz]
      -- the world behind the step
      have hne := hrg.ne
      have hFr3 : Fr [w1.heap.size] wr w3 := Fr.grown hg2 (by intro k hk _; cases hk; simp)
      have hS3 : Sh w0 w3 sb b n (colM M k ms) := by
        refine HI.out.sh.keepS hFr3 ?_ ?_
        · intro hm
          simp at hm
          obtain ⟨_, _, _, _, _, _, _, _, _, hit, _⟩ := hrg
          have := HI.out.sh.box
          rw [hm, hit] at this
          cases this
        · intro j hj hm
          simp at hj
          obtain ⟨_, _, _, _, _, _, _, _, _, hit, _⟩ := hrg
          rcases hm with e2 | ⟨⟨_, cur, e2⟩, _⟩
          · exact hne (hj.symm.trans e2)
          · rw [hj, hit] at e2
            cases e2
      obtain ⟨g, L, c, rfl, hV, hL0, hok, hlkp⟩ : ∃ g L c, cv = some (g, L, c) ∧ VOut w0 w3 (some ⟨g, 0, none⟩) L c (colM M k ms s) ∧ 0 < L ∧ okK9 s ∧ (Instr.lookup 238 (.map (some b)) (.string s) false).run Tryz.prog w3 = .ok (.slice (some ⟨g, 0, none⟩) L c) w3 := by
        refine (hS3.datum hrg2.owns).2.1 s cv (by rw [hks]; exact hhas) (fun z => ?_)
        rw [hks, hat]
        rw [slElem_mk] at hv
        simp only [Option.some.injEq, Prod.mk.injEq] at hv
        exact hv.1.symm
      have hMs : colM M k ms s = M s := colM_out hnot
      have hokV : okV (M s) := by have := hS3.ok s; rw [hMs] at this; exact this
      have hne2 : M s ≠ [] := (HK0.out s).1 (by rw [hks]; exact hhas0)
      rw [hMs] at hV
      have HCo : Hid (Calls _ _ _ _ _) := collect_any (some ⟨g, 0, none⟩) L c k (M s) w3 (hV.each hokV) hV.len hV.cap
      have hsz3 : w1.heap.size ≤ w3.heap.size := Nat.le_trans HI.out.fr.size hFr3.size
      -- behind the store
      have HY : Hid (∀ ro N rc us nn cc w4, CoTold (M s) k us nn cc → VOut w3 w4 ro N rc us → Fr [] w3 w4 → cc = 0 ∧ nn ≤ 65536 ∧ w4.cell? ⟨sb, 0, none⟩ = some (.map (some b)) ∧ ∃ w5, (Instr.mapUpdate 238 (.map (some b)) (.string s) (.slice ro N rc)).run Tryz.prog w4 = .ok () w5 ∧ w5.ranges Tryz.prog 9 slElem b w1.heap.size n (D.put (.string x) (slD (some ((Value.slice ro N rc).ownBlock.getD 0, N, rc)))) (fun z => left z && !z.sameKey (.string x)) cnt2 ∧ CI w0 w1 w5 sb b n M k (ms ++ [s]) (S + nn)) := by
        intro ro N rc us nn cc w4 hT hO hF4
        obtain ⟨rfl, rfl, rfl⟩ := col_told hokV hT
        have hN0 : 0 < N := by
          rw [hO.len]
          exact List.length_pos_iff.2 ((colV_ne k).2 hne2)
        obtain ⟨g2, rfl⟩ : ∃ g2, ro = some ⟨g2, 0, none⟩ := by
          obtain ⟨rf, _, ho⟩ := hO.own
          rcases ho.2 with ⟨_, hz⟩ | ⟨g2, cap, cur, e2, _⟩
          · omega
          · cases e2; exact ⟨g2, rfl⟩
        have hS4 := hS3.keep hF4
        refine ⟨rfl, by have := okV_few hokV; have := colN_lt k hne2; omega, hS4.cell, ?_⟩
        have hk4 : keyOf Tryz.prog 9 (.string s) = some (.string x) := by rw [← hks]; exact keyOf_str7 s (by have := hok.2; unfold maxLen; omega)
        have hrg4 : w4.ranges Tryz.prog 9 slElem b w1.heap.size n D (fun z => left z && !z.sameKey (.string x)) cnt2 := by
          obtain ⟨es, clock, since, seen, c0, r1, r2, r3, r4, r5, r6⟩ := hrg2
          exact ⟨es, clock, since, seen, c0, hF4.keep r1 (by simp), r2, r3, r4, hF4.keep r5 (by simp), r6⟩
        have hent4 : Ent Tryz.prog 9 slElem w4 b (.string x) := by
          obtain ⟨es, clock, xx, e1, e2, e3⟩ := hent
          exact ⟨es, clock, xx, hF4.keep (hFr3.keep e1 (by simp; exact fun e => hne e.symm)) (by simp), e2, e3⟩
        obtain ⟨w5, hr5, hrg5, hg5⟩ := ranges_put hrg4 Tryz.keyedStr Tryz.undVMap hk4 (slElem_mk (some (g2, N, rc))) hent4 (by unfold maxLen; omega)
        obtain ⟨w6, hr6, hS6, hF6, _⟩ := hS3.lay s hok (by omega) hlkp (hF4.mono (by simp)) (hO.later (Nat.le_trans Hsz1.out hsz3)) (fun g' hg' => Or.inr (hO.blk g' (by rw [hg']; simp)).1) (colV_ok hokV k) hN0
        have hw : w6 = w5 := by
          have e2 : Result.ok () w5 = Result.ok () w6 := hr5.symm.trans hr6
          injection e2 with _ e3
          exact e3.symm
        subst hw
        refine ⟨w6, hr6, hrg5, ?_, ?_, ?_, ?_⟩
        · have h7 := (hS6.datum hrg5.owns).2.2
          rw [colM_snoc M k ms s hnot, hMs]
          exact h7
        · exact (HI.out.fr.on hFr3 (by simp)).then hF6
        · rw [List.nodup_append]
          exact ⟨HI.out.nd, by simp, fun a ha b hb e2 => by simp at hb; subst hb; subst e2; exact hnot ha⟩
        · rw [List.map_append, List.sum_append, ← HI.out.sum]
          simp
      have HHp : Hid (∀ d z, has (D.put (.string x) d) (kl7 z) = has D0 (kl7 z)) := fun d z => by
        rw [← HH.out z]
        exact has_put_any hrg.owns.isMap (Tryz.keyedStr.key hkey) hhas d z (by by_cases e : kl7 z = Lit.string x; exact Or.inl e; exact Or.inr e)
      rw [hs] at hen ⊢
      simp only [slV] at hen ⊢
      clear hkey hlk hv hat hg2 hs2 ex hsx hks HC HI HH hhas hhas0 hnot hent hFr3 hS3 hV hlkp hMs hokV hne2 hok hrg0 hrg2 hne
      go_wp2_with fail
      refine Calls.mono HCo.out ?_
      rintro e w4 ⟨ro, N, rc, us, nn, cc, rfl, hT, hO, hF4⟩
      obtain ⟨rfl, hnn, cs4, w5, hr5, hrg5, hI5⟩ := HY.out ro N rc us nn cc w4 hT hO hF4
      have HI5 : Hid (CI w0 w1 w5 sb b n M k (ms ++ [s]) (S + nn)) := hI5
      clear HCo HY hT hO hF4 hI5
      go_wp2_with fail
      go_roundw
      case rel => exact ⟨_, cnt2, S + nn, ms ++ [s], _, by simp, hrg5, by simp; omega, by simp; omega, HC2, (fun z => HHp.out _ z), HI5⟩
      case measure => rw [hrg5.left_eq, hrg.left_eq]; exact hlt
end Go.Proofs.YtakbodlicfmkjaaGreat.O
