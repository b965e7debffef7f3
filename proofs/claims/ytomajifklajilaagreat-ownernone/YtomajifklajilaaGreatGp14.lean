/- Texts of this claim laid together, one behind the other: contracts and plain lemmas; conditions as each names them. -/
import Derived.Test.YtomajifklajilaaGreatGp13
import Derived.Test.YtomajifklajilaaGreatGp11
import Derived.Test.YtomajifklajilaaGreatGp12
import Derived.Test.YtomajifklajilaaGreatGp5
import Derived.Test.YtomajifklajilaaGreatGp6
import Derived.Test.YtomajifklajilaaGreatGp10
/- Without what newer versions hide: mathematics; contract of a shard's Collect. Conditions as each names them. -/
namespace Go.Proofs.YtomajifklajilaaGreat
open Go.ChangeShapes Go.WideShapes Go.ChangeAt Go.RowKit Go.Lib Go.Maps
set_option linter.unusedVariables false
set_option linter.unusedSimpArgs false

/-- How many versions of a key go. -/
def colN (vs : List Vn) (k : Int) : Nat := (vs.filter fun v => decide (v.num ≤ k)).length - 1
def colV (vs : List Vn) (k : Int) : List Vn := vs.drop (colN vs k)
theorem colN_upTo {vs : List Vn} {k : Int} {d : Nat} (h : UpTo vs k d) : colN vs k = d - 1 := by
  unfold colN
  rw [filt_upTo h, List.length_take]
  have := h.le
  omega
theorem col_told {vs : List Vn} {k : Int} {us : List Vn} {n c : Nat} (ho : okV vs) (h : CoTold vs k us n c) : us = colV vs k ∧ n = colN vs k ∧ c = 0 := by
  rcases h with ⟨_, h, _⟩ | ⟨hc, _, d, hd, h1, h2⟩
  · exact absurd ho h
  · have e := colN_upTo hd
    exact ⟨by rw [h2, h1]; unfold colV; rw [e], by rw [h1, e], hc⟩
theorem colV_len (vs : List Vn) (k : Int) : (colV vs k).length = vs.length - colN vs k := by simp [colV]
theorem colN_lt {vs : List Vn} (k : Int) (h : vs ≠ []) : colN vs k < vs.length := by
  unfold colN
  have := List.length_filter_le (fun v : Vn => decide (v.num ≤ k)) vs
  have := List.length_pos_iff.2 h
  omega
theorem colV_nil (k : Int) : colV [] k = [] := rfl
theorem colV_ne {vs : List Vn} (k : Int) : colV vs k ≠ [] ↔ vs ≠ [] := by
  constructor
  · rintro h rfl
    exact h rfl
  · intro h e
    have h1 := colV_len vs k
    have h2 := colN_lt k h
    rw [e] at h1
    simp at h1
    omega
theorem colV_ok {vs : List Vn} (h : okV vs) (k : Int) : okV (colV vs k) := okV_drop h _
/-- Nothing that is read at the mark or above changes. -/
theorem colV_val {vs : List Vn} (ho : okV vs) {k m : Int} (hkm : k ≤ m) : valAt (colV vs k) m = valAt vs m := by
  obtain ⟨d, hd⟩ := UpTo.ex ho.2 k
  obtain ⟨c, hc⟩ := UpTo.ex ho.2 m
  have hdc := hd.mono hc hkm
  have e : colV vs k = vs.drop (d - 1) := by unfold colV; rw [colN_upTo hd]
  have hD := hc.drop (d := d - 1) (by omega)
  unfold valAt
  rw [e, vAt_upTo hc, vAt_upTo hD]
  by_cases h0 : c = 0
  · rw [if_pos h0, if_pos (by omega)]
  · rw [if_neg h0, if_neg (by omega), atV_drop vs c (d - 1) (by omega)]
/-- At most one is left at the mark or below. -/
theorem colV_low {vs : List Vn} (ho : okV vs) (k : Int) : ((colV vs k).filter fun v => decide (v.num ≤ k)).length ≤ 1 := by
  obtain ⟨d, hd⟩ := UpTo.ex ho.2 k
  have e : colV vs k = vs.drop (d - 1) := by unfold colV; rw [colN_upTo hd]
  have hD := hd.drop (d := d - 1) (by omega)
  rw [e, filt_upTo hD, List.length_take]
  omega
/-- How many versions go of all keys. -/
def GoT (M : ByteArray → List Vn) (k : Int) (S : Nat) : Prop := ∃ ks : List ByteArray, ks.Nodup ∧ (∀ s, s ∈ ks ↔ M s ≠ []) ∧ S = (ks.map fun s => colN (M s) k).sum
theorem sum_same (f : ByteArray → Nat) {as' bs : List ByteArray} (ha : as'.Nodup) (hb : bs.Nodup) (h : ∀ x, x ∈ as' ↔ x ∈ bs) : (as'.map f).sum = (bs.map f).sum :=
  Nat.le_antisymm (sum_sub f as' bs ha fun x hx => (h x).1 hx) (sum_sub f bs as' hb fun x hx => (h x).2 hx)
theorem sum_add (f g h : ByteArray → Nat) (e : ∀ s, f s = g s + h s) : ∀ as' : List ByteArray, (as'.map f).sum = (as'.map g).sum + (as'.map h).sum
  | [] => rfl
  | a :: r => by
    have := sum_add f g h e r
    have := e a
    simp only [List.map_cons, List.sum_cons]
    omega
theorem GoT.size {M : ByteArray → List Vn} {k : Int} {S n n' : Nat} (h : GoT M k S) (h1 : SzT M n) (h2 : SzT (fun s => colV (M s) k) n') : n' + S = n := by
  obtain ⟨ks, hn, hk, rfl⟩ := h
  obtain ⟨k1, hn1, hk1, rfl⟩ := h1
  obtain ⟨k2, hn2, hk2, rfl⟩ := h2
  have e1 := sum_same (fun s => (M s).length) hn1 hn (fun x => (hk1 x).trans (hk x).symm)
  have e2 := sum_same (fun s => (colV (M s) k).length) hn2 hn (fun x => by rw [hk2 x, hk x]; exact colV_ne k)
  have e3 := sum_add (fun s => (M s).length) (fun s => (colV (M s) k).length) (fun s => colN (M s) k) (fun s => by
    rw [colV_len]
    by_cases h : M s = []
    · rw [h]; rfl
    · have := colN_lt k h; omega) ks
  show (k2.map fun s => (colV (M s) k).length).sum + _ = _
  omega
theorem owns_one {P : Program} {k : TypeId} {R : Value → Option (DataW Unit × List MemPlace)} {w : World} {b n m : Nat} {D D' : DataW Unit} (h : w.ownsMap P k R b n D) (h' : w.ownsMap P k R b m D') : D = D' := by
  obtain ⟨es, c, hb, _, _, rfl⟩ := h
  obtain ⟨es', c', hb', _, _, rfl⟩ := h'
  rw [hb] at hb'
  simp only [Option.some.injEq, Obj.map.injEq] at hb'
  obtain ⟨rfl, rfl⟩ := hb'
  rfl
/-- A shard's map, as a range over it sees it. -/
theorem Sh.datum {w0 w : World} {sb b n : Nat} {M : ByteArray → List Vn} (h : Sh w0 w sb b n M) {m : Nat} {D : DataW Unit} (hD : w.ownsMap Tryz.prog 9 slElem b m D) :
    (∀ s, has D (kl7 s) = true ↔ M s ≠ []) ∧ (∀ (s : ByteArray) (cv : Sl3), has D (kl7 s) = true → (∀ z, D.atKey (kl7 s) z = slD cv) → ∃ g L c, cv = some (g, L, c) ∧ VOut w0 w (some ⟨g, 0, none⟩) L c (M s) ∧ 0 < L ∧ okK9 s ∧ (Instr.lookup 125 (.map (some b)) (.string s) false).run Tryz.prog w = .ok (.slice (some ⟨g, 0, none⟩) L c) w) ∧ Sh w0 w sb b m M := by
  have hmap := h.map
  obtain ⟨G, hM, h0, hr, hu⟩ := hmap
  have hM2 := hM
  obtain ⟨D1, hD1, hH, hA⟩ := hM
  obtain rfl : D1 = D := owns_one hD1 hD
  refine ⟨fun s => ?_, fun s cv hh hat => ?_, ⟨h.box, h.sbn, h.bn, h.ok, G, ⟨D1, hD, hH, hA⟩, h0, hr, hu⟩⟩
  · rw [hH s]
    constructor
    · intro h1 e
      obtain ⟨⟨g, L, c⟩, hg⟩ := Option.isSome_iff_exists.1 h1
      obtain ⟨hV, hL, _⟩ := hr s g L c hg
      have := hV.len
      rw [e] at this
      simp at this
      omega
    · intro h1
      cases hg : G s with
      | some x => rfl
      | none => exact absurd (h0 s hg) h1
  · rw [hH s] at hh
    obtain ⟨⟨g, L, c⟩, hg⟩ := Option.isSome_iff_exists.1 hh
    have h2 := hA s hh (.lit (.bool true))
    rw [hat, hg] at h2
    obtain ⟨hV, hL, hk⟩ := hr s g L c hg
    refine ⟨g, L, c, slD_inj h2, hV, hL, hk, ?_⟩
    have := hM2.look s (by have := hk.2; unfold maxLen; omega)
    rw [hg] at this
    exact this
theorem FrS.on {w0 : World} {b : Nat} {w w1 w2 : World} {T : List Nat} (h : FrS w0 b w w1) (k : Fr T w1 w2) (hT : ∀ x ∈ T, w.heap.size ≤ x) : FrS w0 b w w2 := by
  obtain ⟨S, hS, hm⟩ := h
  refine ⟨S, hS.trans k (fun x hx _ => hx) (fun x hx hlt => by have := hT x hx; omega), fun hb => ⟨(hm hb).1, fun j hr => ?_⟩⟩
  exact (hm hb).2 j (hr.back k (fun hx => by have := hT b hx; omega) (Nat.lt_of_lt_of_le hb hS.size))
open Classical in
noncomputable def colM (M : ByteArray → List Vn) (k : Int) (ms : List ByteArray) : ByteArray → List Vn := fun s => if s ∈ ms then colV (M s) k else M s
theorem colM_in {M : ByteArray → List Vn} {k : Int} {ms : List ByteArray} {s : ByteArray} (h : s ∈ ms) : colM M k ms s = colV (M s) k := by unfold colM; rw [if_pos h]
theorem colM_out {M : ByteArray → List Vn} {k : Int} {ms : List ByteArray} {s : ByteArray} (h : s ∉ ms) : colM M k ms s = M s := by unfold colM; rw [if_neg h]
theorem colM_snoc (M : ByteArray → List Vn) (k : Int) (ms : List ByteArray) (s : ByteArray) (hs : s ∉ ms) : colM M k (ms ++ [s]) = updM (colM M k ms) s (colV (colM M k ms s) k) := by
  funext x
  unfold updM
  by_cases h1 : x = s
  · subst h1
    rw [if_pos rfl, colM_out hs, colM_in (by simp)]
  · rw [if_neg h1]
    by_cases h2 : x ∈ ms
    · rw [colM_in h2, colM_in (by simp [h2])]
    · rw [colM_out h2, colM_out (by simp [h1, h2])]
theorem has_put_any {D : DataW Unit} (hI : IsMap D) {kl : Lit} (hk : WideAt.IsKeyLit kl) (hh : has D kl = true) (d : DataW Unit) (x : ByteArray) (hx : kl7 x = kl ∨ kl7 x ≠ kl) : has (D.put kl d) (kl7 x) = has D (kl7 x) := by
  rcases hx with e | e
  · rw [e, has_put_same hI hk, hh]
  · rw [has_put_other e]
/-- Between two rounds of Collect. -/
structure CI (w0 w1 wr : World) (sb b n : Nat) (M : ByteArray → List Vn) (k : Int) (ms : List ByteArray) (S : Nat) : Prop where
  sh : Sh w0 wr sb b n (colM M k ms)
  fr : FrS w0 b w1 wr
  nd : ms.Nodup
  sum : S = (ms.map fun s => colN (M s) k).sum
set_option maxHeartbeats 8000000 in
set_option maxRecDepth 100000 in
theorem hcollect_any {w0 : World} {sb b n : Nat} {M : ByteArray → List Vn} (k : Int) (w : World) (h : Sh w0 w sb b n M) (h0 : w0.heap.size ≤ w.heap.size) (hn : n < 3518437208883) :
    Calls Tryz.prog 66 #[.pointer (some ⟨sb, 0, none⟩), .int .i64 k] w fun e w' => ∃ S : Nat, e = .returned (.int .i64 (S : Int)) ∧ GoT M k S ∧ S ≤ 65536 * n ∧ Sh w0 w' sb b n (fun s => colV (M s) k) ∧ FrS w0 b w w' := by
  have HT : Hid (Calls _ _ _ _ _) := hthere_any w h
  have HS0 : Hid (∀ W, Fr [] w W → Sh w0 W sb b n M) := fun W hf => h.keep hf
  have H0 : Hid (w0.heap.size ≤ w.heap.size) := h0
  clear h h0
  go_enter Tryz.func66, Tryz.ntmps66
  go_wp2_with fail
  refine Calls.mono HT.out ?_
  rintro e w1 ⟨rfl, hF1⟩
  have h := HS0.out _ hF1
  have cs := h.cell
  obtain ⟨D0, hown⟩ : ∃ D0, w1.ownsMap Tryz.prog 9 slElem b n D0 := by
    obtain ⟨G, ⟨D0, hown, _⟩, _⟩ := h.map
    exact ⟨D0, hown⟩
  have HFw : Hid (Fr [] w w1) := hF1
  have HSz : Hid (Maps.size D0 ≤ n) := hown.size_le
  have HK0 : Hid (∀ s, has D0 (kl7 s) = true ↔ M s ≠ []) := (h.datum hown).1
  have HS1 : Hid (Sh w0 w1 sb b n M) := h
  have Hsz1 : Hid (w0.heap.size ≤ w1.heap.size) := Nat.le_trans H0.out hF1.size
  clear h HT hF1 HS0
  go_wp2_with (first
    | (at_range; refine wpList_range_own _ rfl _ 125 rfl 9 68 Tryz.keyedStr Tryz.undVMap _ b n _ rfl hown ?_; intro w2 hrg0 hg0 hs0)
    | fail)
  go_frame
  have HC0 : Hid (CI w0 w1 w2 sb b n M k [] 0) := by
    have hf : Fr [] w1 w2 := Fr.grown hg0 (by simp)
    refine ⟨?_, FrS.of hf, List.nodup_nil, rfl⟩
    have e : colM M k [] = M := by funext s; exact colM_out (by simp)
    rw [e]
    exact HS1.out.keep hf
  have HH0 : Hid (∀ s, has D0 (kl7 s) = has D0 (kl7 s)) := fun _ => rfl
  have hcnt := HSz.out
  go_loopw [5] (fun nn wr => ∃ (left : Lit → Bool) (cnt S : Nat) (ms : List ByteArray) (D : DataW Unit), nn = .int .i64 S ∧ wr.ranges Tryz.prog 9 slElem b w1.heap.size n D left cnt ∧ ms.length + cnt ≤ n ∧ S ≤ 65536 * ms.length ∧ Hid (Collected D0 left (ms.map (·.data.toList))) ∧ Hid (∀ s, has D (kl7 s) = has D0 (kl7 s)) ∧ Hid (CI w0 w1 wr sb b n M k ms S))
    (fun _ wr => wr.rangeLeft b w1.heap.size)
  case atStart => exact ⟨_, _, 0, [], D0, rfl, hrg0, by simpa using hcnt, Nat.zero_le _, Collected.start D0, HH0, HC0⟩
  case round =>
    obtain ⟨left, cnt, S, ms, D, rfl, hrg, hmc, hSm, HC, HH, HI⟩ := hrel
    go_wp2_with (first
      | (at_next; refine wpList_next_ranges _ rfl _ rfl 9 Tryz.keyedStr slElem encStr slV (fun key kl hk => by obtain ⟨x, hx, _⟩ := Maps.keyOf_str Tryz.undStr hk; exact ⟨x, hx⟩) (fun v y hv => by obtain ⟨s, rfl, _⟩ := slElem_inv hv; exact ⟨s, rfl⟩) b w1.heap.size n _ _ _ rfl hrg ?_ ?_)
      | fail)
    · intro hc0 hl0
      have hmem : ∀ s, s ∈ ms ↔ M s ≠ [] := by
        intro s
        rw [← HK0.out s]
        have h1 := HC.out.2 s.data.toList
        constructor
        · intro hs
          exact (h1.1 (List.mem_map.2 ⟨s, hs, rfl⟩)).1
        · intro hs
          obtain ⟨q, hq, he⟩ := List.mem_map.1 (h1.2 ⟨hs, hl0 _⟩)
          rw [← bytes_eq he]
          exact hq
      have HR : Hid (GoT M k S ∧ S ≤ 65536 * n ∧ Sh w0 wr sb b n (fun s => colV (M s) k) ∧ FrS w0 b w wr) := by
        refine ⟨⟨ms, HI.out.nd, hmem, HI.out.sum⟩, Nat.le_trans hSm (Nat.mul_le_mul_left _ (by omega)), ?_, FrS.from HFw.out HI.out.fr⟩
        have e : colM M k ms = fun s => colV (M s) k := by
          funext s
          by_cases hs : s ∈ ms
          · rw [colM_in hs]
          · rw [colM_out hs]
            have : M s = [] := by
              by_cases e : M s = []
              · exact e
              · exact absurd ((hmem s).2 e) hs
            rw [this]
            rfl
        rw [← e]
        exact HI.out.sh
      clear hc0 hl0 HC HH HI hrg hrg0 hmem
      go_wp2
      go_ret
      exact ⟨S, rfl, HR.out⟩
    · intro x cv kl yd yp w3 cnt2 hkey hlk hv hat hrg2 hlt hg2 hs2 hen
      have hent := ranges_ent hrg hlk
      obtain ⟨x', ex, hkl, _⟩ := Maps.keyOf_str Tryz.undStr hkey
      obtain rfl : x = x' := encStr_inj ex
      subst hkl
      obtain ⟨s, hs, hsx, hks⟩ := encStr_bytes x
      have hhas : has D (.string x) = true := has_true_of_atKey hat
      have hhas0 : has D0 (.string x) = true := by
        have := HH.out s
        rw [hks] at this
        rw [← this]
        exact hhas
      have hnot : s ∉ ms := fun hm => by
        have h1 := (HC.out.2 x).1 (by rw [← hsx]; exact List.mem_map.2 ⟨s, hm, rfl⟩)
        rw [hlk] at h1
        exact absurd h1.2 (by simp)
      have HC2 : Hid (Collected D0 (fun z => left z && !z.sameKey (.string x)) ((ms ++ [s]).map (·.data.toList))) := by
        show Collected _ _ _
        have e : (ms ++ [s]).map (·.data.toList) = ms.map (·.data.toList) ++ [x] := by simp [hsx]
        rw [e]
        have hst := HC.out
        refine ⟨?_, fun z => ?_⟩
        · rw [List.nodup_append]
          refine ⟨hst.1, by simp, fun a ha b hb e2 => ?_⟩
          simp at hb
          subst hb
          subst e2
          have := ((hst.2 a).1 ha).2
          rw [hlk] at this
          cases this
        · rw [List.mem_append, hst.2 z]
          simp only [List.mem_singleton]
          by_cases hz : z = x
          · subst hz
            have : (Lit.string z).sameKey (.string z) = true := by simp [Lit.sameKey]
            simp [this, hhas0]
          · have : (Lit.string z).sameKey (.string x) = false := by simpa [Lit.sameKey] using hz
            simp [this, hz]
      -- the world behind the step
      have hne := hrg.ne
      have hFr3 : Fr [w1.heap.size] wr w3 := Fr.grown hg2 (by intro k hk _; cases hk; simp)
      have hS3 : Sh w0 w3 sb b n (colM M k ms) := by
        refine HI.out.sh.keepS hFr3 ?_ ?_
        · intro hm
          simp at hm
          obtain ⟨_, _, _, _, _, _, _, _, _, hit, _⟩ := hrg
          have := HI.out.sh.box
          rw [hm, hit] at this
          cases this
        · intro j hj hm
          simp at hj
          obtain ⟨_, _, _, _, _, _, _, _, _, hit, _⟩ := hrg
          rcases hm with e2 | ⟨⟨_, cur, e2⟩, _⟩
          · exact hne (hj.symm.trans e2)
          · rw [hj, hit] at e2
            cases e2
      obtain ⟨g, L, c, rfl, hV, hL0, hok, hlkp⟩ : ∃ g L c, cv = some (g, L, c) ∧ VOut w0 w3 (some ⟨g, 0, none⟩) L c (colM M k ms s) ∧ 0 < L ∧ okK9 s ∧ (Instr.lookup 125 (.map (some b)) (.string s) false).run Tryz.prog w3 = .ok (.slice (some ⟨g, 0, none⟩) L c) w3 := by
        refine (hS3.datum hrg2.owns).2.1 s cv (by rw [hks]; exact hhas) (fun z => ?_)
        rw [hks, hat]
        rw [slElem_mk] at hv
        simp only [Option.some.injEq, Prod.mk.injEq] at hv
        exact hv.1.symm
      have hMs : colM M k ms s = M s := colM_out hnot
      have hokV : okV (M s) := by have := hS3.ok s; rw [hMs] at this; exact this
      have hne2 : M s ≠ [] := (HK0.out s).1 (by rw [hks]; exact hhas0)
      rw [hMs] at hV
      have HCo : Hid (Calls _ _ _ _ _) := collect_any (some ⟨g, 0, none⟩) L c k (M s) w3 (hV.each hokV) hV.len hV.cap
      have hsz3 : w1.heap.size ≤ w3.heap.size := Nat.le_trans HI.out.fr.size hFr3.size
      -- behind the store
      have HY : Hid (∀ ro N rc us nn cc w4, CoTold (M s) k us nn cc → VOut w3 w4 ro N rc us → Fr [] w3 w4 → cc = 0 ∧ nn ≤ 65536 ∧ w4.cell? ⟨sb, 0, none⟩ = some (.map (some b)) ∧ ∃ w5, (Instr.mapUpdate 125 (.map (some b)) (.string s) (.slice ro N rc)).run Tryz.prog w4 = .ok () w5 ∧ w5.ranges Tryz.prog 9 slElem b w1.heap.size n (D.put (.string x) (slD (some ((Value.slice ro N rc).ownBlock.getD 0, N, rc)))) (fun z => left z && !z.sameKey (.string x)) cnt2 ∧ CI w0 w1 w5 sb b n M k (ms ++ [s]) (S + nn)) := by
        intro ro N rc us nn cc w4 hT hO hF4
        obtain ⟨rfl, rfl, rfl⟩ := col_told hokV hT
        have hN0 : 0 < N := by
          rw [hO.len]
          exact List.length_pos_iff.2 ((colV_ne k).2 hne2)
        obtain ⟨g2, rfl⟩ : ∃ g2, ro = some ⟨g2, 0, none⟩ := by
          obtain ⟨rf, _, ho⟩ := hO.own
          rcases ho.2 with ⟨_, hz⟩ | ⟨g2, cap, cur, e2, _⟩
          · omega
          · cases e2; exact ⟨g2, rfl⟩
        have hS4 := hS3.keep hF4
        refine ⟨rfl, by have := okV_few hokV; have := colN_lt k hne2; omega, hS4.cell, ?_⟩
        have hk4 : keyOf Tryz.prog 9 (.string s) = some (.string x) := by rw [← hks]; exact keyOf_str7 s (by have := hok.2; unfold maxLen; omega)
        have hrg4 : w4.ranges Tryz.prog 9 slElem b w1.heap.size n D (fun z => left z && !z.sameKey (.string x)) cnt2 := by
          obtain ⟨es, clock, since, seen, c0, r1, r2, r3, r4, r5, r6⟩ := hrg2
          exact ⟨es, clock, since, seen, c0, hF4.keep r1 (by simp), r2, r3, r4, hF4.keep r5 (by simp), r6⟩
        have hent4 : Ent Tryz.prog 9 slElem w4 b (.string x) := by
          obtain ⟨es, clock, xx, e1, e2, e3⟩ := hent
          exact ⟨es, clock, xx, hF4.keep (hFr3.keep e1 (by simp; exact fun e => hne e.symm)) (by simp), e2, e3⟩
        obtain ⟨w5, hr5, hrg5, hg5⟩ := ranges_put hrg4 Tryz.keyedStr Tryz.undVMap hk4 (slElem_mk (some (g2, N, rc))) hent4 (by unfold maxLen; omega)
        obtain ⟨w6, hr6, hS6, hF6, _⟩ := hS3.lay s hok (by omega) hlkp (hF4.mono (by simp)) (hO.later (Nat.le_trans Hsz1.out hsz3)) (fun g' hg' => Or.inr (hO.blk g' (by rw [hg']; simp)).1) (colV_ok hokV k) hN0
        have hw : w6 = w5 := by
          have e2 : Result.ok () w5 = Result.ok () w6 := hr5.symm.trans hr6
          injection e2 with _ e3
          exact e3.symm
        subst hw
        refine ⟨w6, hr6, hrg5, ?_, ?_, ?_, ?_⟩
        · have h7 := (hS6.datum hrg5.owns).2.2
          rw [colM_snoc M k ms s hnot, hMs]
          exact h7
        · exact (HI.out.fr.on hFr3 (by simp)).then hF6
        · rw [List.nodup_append]
          exact ⟨HI.out.nd, by simp, fun a ha b hb e2 => by simp at hb; subst hb; subst e2; exact hnot ha⟩
        · rw [List.map_append, List.sum_append, ← HI.out.sum]
          simp
      have HHp : Hid (∀ d z, has (D.put (.string x) d) (kl7 z) = has D0 (kl7 z)) := fun d z => by
        rw [← HH.out z]
        exact has_put_any hrg.owns.isMap (Tryz.keyedStr.key hkey) hhas d z (by by_cases e : kl7 z = Lit.string x; exact Or.inl e; exact Or.inr e)
      rw [hs] at hen ⊢
      simp only [slV] at hen ⊢
      clear hkey hlk hv hat hg2 hs2 ex hsx hks HC HI HH hhas hhas0 hnot hent hFr3 hS3 hV hlkp hMs hokV hne2 hok hrg0 hrg2 hne
      go_wp2_with fail
      refine Calls.mono HCo.out ?_
      rintro e w4 ⟨ro, N, rc, us, nn, cc, rfl, hT, hO, hF4⟩
      obtain ⟨rfl, hnn, cs4, w5, hr5, hrg5, hI5⟩ := HY.out ro N rc us nn cc w4 hT hO hF4
      have HI5 : Hid (CI w0 w1 w5 sb b n M k (ms ++ [s]) (S + nn)) := hI5
      clear HCo HY hT hO hF4 hI5
      go_wp2_with fail
      go_roundw
      case rel => exact ⟨_, cnt2, S + nn, ms ++ [s], _, by simp, hrg5, by simp; omega, by simp; omega, HC2, (fun z => HHp.out _ z), HI5⟩
      case measure => rw [hrg5.left_eq, hrg.left_eq]; exact hlt
end Go.Proofs.YtomajifklajilaaGreat
/- Which blocks an owner's calls may change; an owner with its shard in memory. Conditions as each names them. -/
namespace Go.Proofs.YtomajifklajilaaGreat
open Go.ChangeShapes Go.WideShapes Go.ChangeAt Go.RowKit Go.Lib Go.Maps
set_option linter.unusedVariables false
set_option linter.unusedSimpArgs false
theorem ring_is {w : World} {g C : Nat} {pb : Option Nat} {xs : List Rv} {cl : Bool} (h : Rg w g pb C xs cl) {j : Nat} (hj : j ∈ Rg.own g pb) : ∃ cur t, w.heap[j]? = some (.cells cur t (0, 0)) ∧ (t = 106 ∨ t = 36) := by
  obtain ⟨N, F, K, ps, hR⟩ := h
  simp only [Rg.own, List.mem_cons, Option.mem_toList] at hj
  rcases hj with rfl | hj
  · exact ⟨_, _, hR.box, Or.inl rfl⟩
  · exact ⟨_, _, hR.row j hj, Or.inr rfl⟩
/-- The blocks that an owner's calls may change. -/
def OM (w : World) (b j : Nat) : Prop := (∃ cur, w.heap[j]? = some (.cells cur 106 (0, 0))) ∨ (∃ cur, w.heap[j]? = some (.cells cur 36 (0, 0))) ∨ j = b ∨ ((∃ cur, w.heap[j]? = some (.cells cur 110 (0, 0))) ∧ RowOf w b j)
/-- Only those, and new ones, may differ; what becomes the shard's own is new. -/
def OwF (b : Nat) (w w' : World) : Prop := ∃ S, Fr S w w' ∧ (b < w.heap.size → (∀ j ∈ S, j < w.heap.size → OM w b j) ∧ ∀ j, RowOf w' b j → RowOf w b j ∨ w.heap.size ≤ j)
section
variable {w0 w w' w1 w2 : World} {b : Nat} {t : Option Nat}
theorem OwF.of (h : Fr [] w w') : OwF b w w' := ⟨[], h, fun hb => ⟨by simp, fun j hr => Or.inl (hr.back h (by simp) hb)⟩⟩
theorem OwF.size (h : OwF b w w') : w.heap.size ≤ w'.heap.size := by
  obtain ⟨S, h, _⟩ := h
  exact h.size
theorem OwF.ofS (h : FrS w0 b w w') : OwF b w w' := by
  obtain ⟨S, h1, h2⟩ := h
  refine ⟨S, h1, fun hb => ?_⟩
  obtain ⟨k1, k2⟩ := h2 hb
  refine ⟨fun j hj hl => ?_, k2⟩
  rcases k1 j hj hl with e | ⟨⟨_, e⟩, f⟩
  · exact Or.inr (Or.inr (Or.inl e))
  · exact Or.inr (Or.inr (Or.inr ⟨e, f⟩))
theorem ring_nb {g C : Nat} {pb : Option Nat} {xs : List Rv} {cl : Bool} (hR : Rg w g pb C xs cl) (hb : ∃ es c, w.heap[b]? = some (.map es c)) : b ∉ Rg.own g pb := fun hm => by
  obtain ⟨cur, t, e, _⟩ := ring_is hR hm
  obtain ⟨es, c, e2⟩ := hb
  rw [e2] at e
  cases e
theorem OwF.ofR {g C : Nat} {pb : Option Nat} {xs : List Rv} {cl : Bool} (hR : Rg w g pb C xs cl) (hb : ∃ es c, w.heap[b]? = some (.map es c)) (h : Fr (Rg.own g pb) w w') : OwF b w w' := by
  refine ⟨_, h, fun hl => ⟨fun j hj _ => ?_, fun j hr => Or.inl (hr.back h (ring_nb hR hb) hl)⟩⟩
  obtain ⟨cur, t, e, rfl | rfl⟩ := ring_is hR hj
  · exact Or.inl ⟨cur, e⟩
  · exact Or.inr (Or.inl ⟨cur, e⟩)
theorem OwF.then (h : OwF b w w1) (k : OwF b w1 w2) : OwF b w w2 := by
  obtain ⟨S, hS, hm⟩ := h
  obtain ⟨T, hT, kn⟩ := k
  refine ⟨S ++ T, hS.trans hT (fun x hx _ => List.mem_append_left _ hx) (fun x hx _ => List.mem_append_right _ hx), fun hb => ?_⟩
  obtain ⟨m1, m2⟩ := hm hb
  obtain ⟨k1, k2⟩ := kn (Nat.lt_of_lt_of_le hb hS.size)
  refine ⟨fun j hj hlt => ?_, fun j hr => ?_⟩
  · by_cases hjS : j ∈ S
    · exact m1 j hjS hlt
    · have hjT : j ∈ T := (List.mem_append.1 hj).resolve_left hjS
      have e := hS.block j hlt hjS
      rcases k1 j hjT (Nat.lt_of_lt_of_le hlt hS.size) with ⟨c, q⟩ | ⟨c, q⟩ | q | ⟨⟨c, q⟩, r⟩
      · exact Or.inl ⟨c, by rw [← e]; exact q⟩
      · exact Or.inr (Or.inl ⟨c, by rw [← e]; exact q⟩)
      · exact Or.inr (Or.inr (Or.inl q))
      · rcases m2 j r with r | r
        · exact Or.inr (Or.inr (Or.inr ⟨⟨c, by rw [← e]; exact q⟩, r⟩))
        · omega
  · rcases k2 j hr with h1 | h1
    · exact m2 j h1
    · exact Or.inr (Nat.le_trans hS.size h1)
theorem OwF.apart (h : OwF b w w') (hb : b < w.heap.size) {j : Nat} {o : Obj} (hj : w.heap[j]? = some o) (hn : ¬ OM w b j) : w'.heap[j]? = some o := by
  obtain ⟨S, hS, hm⟩ := h
  have hlt : j < w.heap.size := by
    rcases Nat.lt_or_ge j w.heap.size with h1 | h1
    · exact h1
    · rw [Array.getElem?_eq_none h1] at hj; cases hj
  rw [← hj]
  exact hS.block j hlt (fun hjS => hn ((hm hb).1 j hjS hlt))
theorem OwF.keep (h : OwF b w w') (hb : ∃ es c, w.heap[b]? = some (.map es c)) {j : Nat} {cs : Array Value} {t : TypeId} {fr : Nat × Nat} (hj : w.heap[j]? = some (.cells cs t fr)) (h1 : t ≠ 106) (h2 : t ≠ 36) (h3 : t ≠ 110) : w'.heap[j]? = some (.cells cs t fr) := by
  have hbl : b < w.heap.size := by
    obtain ⟨es, c, hb⟩ := hb
    rcases Nat.lt_or_ge b w.heap.size with h1 | h1
    · exact h1
    · rw [Array.getElem?_eq_none h1] at hb; cases hb
  refine h.apart hbl hj ?_
  rintro (⟨c, e⟩ | ⟨c, e⟩ | e | ⟨⟨c, e⟩, _⟩)
  · rw [hj] at e; simp only [Option.some.injEq, Obj.cells.injEq] at e; exact h1 e.2.1
  · rw [hj] at e; simp only [Option.some.injEq, Obj.cells.injEq] at e; exact h2 e.2.1
  · obtain ⟨es, c, hb⟩ := hb
    rw [← e, hj] at hb
    cases hb
  · rw [hj] at e; simp only [Option.some.injEq, Obj.cells.injEq] at e; exact h3 e.2.1
/-- A request that waits. -/
structure One15 (w0 : World) (t : Option Nat) (w : World) (x : Rv) (r : Rq) : Prop where
  is : x.q r.bs = r
  ok : okR r
  len : x.bl = r.bs.length
  row : IRs w x.bo r.bs
  nb : Nb w w0.heap.size x.bo
  av : ∀ a, x.bo = some a → t ≠ some a.block
inductive Wt15 (w0 : World) (t : Option Nat) (w : World) : List Rv → List Rq → Prop
  | nil : Wt15 w0 t w [] []
  | cons {x : Rv} {r : Rq} {xs : List Rv} {rs : List Rq} : One15 w0 t w x r → Wt15 w0 t w xs rs → Wt15 w0 t w (x :: xs) (r :: rs)
theorem Wt15.len {xs : List Rv} {rs : List Rq} (h : Wt15 w0 t w xs rs) : xs.length = rs.length := by
  induction h with
  | nil => rfl
  | cons _ _ ih => simp [ih]
theorem Wt15.snoc {xs : List Rv} {rs : List Rq} {x : Rv} {r : Rq} (h : Wt15 w0 t w xs rs) (hx : One15 w0 t w x r) : Wt15 w0 t w (xs ++ [x]) (rs ++ [r]) := by
  induction h with
  | nil => exact .cons hx .nil
  | cons h1 _ ih => exact .cons h1 ih
theorem One15.keep {x : Rv} {r : Rq} (h : One15 w0 t w x r) (hk : ∀ (j : Nat) (cs : Array Value), w.heap[j]? = some (.cells cs 3 (0, 0)) → w'.heap[j]? = some (.cells cs 3 (0, 0))) (hs : w.heap.size ≤ w'.heap.size) : One15 w0 t w' x r := by
  refine ⟨h.is, h.ok, h.len, ⟨fun h0 => ?_, h.row.few⟩, fun a e => ?_, h.av⟩
  · obtain ⟨bb, off, e, hb, hc⟩ := h.row.lies h0
    obtain ⟨_, cur, hcur⟩ := h.nb _ e
    have hcur' := hk _ _ hcur
    refine ⟨bb, off, e, Nat.lt_of_lt_of_le hb hs, fun i hi => ?_⟩
    rw [← hc i hi]
    exact World.cell?_of_block (hcur'.trans hcur.symm)
  · obtain ⟨h1, cur, hcur⟩ := h.nb a e
    exact ⟨h1, cur, hk _ _ hcur⟩
theorem Wt15.keep {xs : List Rv} {rs : List Rq} (h : Wt15 w0 t w xs rs) (hk : ∀ (j : Nat) (cs : Array Value), w.heap[j]? = some (.cells cs 3 (0, 0)) → w'.heap[j]? = some (.cells cs 3 (0, 0))) (hs : w.heap.size ≤ w'.heap.size) : Wt15 w0 t w' xs rs := by
  induction h with
  | nil => exact .nil
  | cons h1 _ ih => exact .cons (h1.keep hk hs) ih
/-- An owner with its shard: made since w0; it has the versions M, and the requests rs wait. -/
structure OwS (w0 : World) (t : Option Nat) (w : World) (ob sb b n g : Nat) (pb : Option Nat) (C : Nat) (M : ByteArray → List Vn) (rs : List Rq) : Prop where
  q : ∃ xs, OwQ w ob g ⟨sb, 0, none⟩ pb C xs ∧ Wt15 w0 t w xs rs
  sh : Sh w0 w sb b n M
  fr : Fr [] w0 w
  gn : w0.heap.size ≤ g
  on : w0.heap.size ≤ ob
  pn : ∀ k, pb = some k → w0.heap.size ≤ k
section
variable {ob sb n g C : Nat} {pb : Option Nat} {M : ByteArray → List Vn} {rs : List Rq}
theorem OwS.same (h : OwS w0 t w ob sb b n g pb C M rs) (hf : Fr [] w w') : OwS w0 t w' ob sb b n g pb C M rs := by
  obtain ⟨xs, hq, hw⟩ := h.q
  exact ⟨⟨xs, hq.same hf, hw.keep (fun j cs hj => hf.keep hj (by simp)) hf.size⟩, h.sh.keep hf, h.fr.then hf, h.gn, h.on, h.pn⟩
theorem OwS.own (h : OwS w0 t w ob sb b n g pb C M rs) : ∀ j ∈ Rg.own g pb, w0.heap.size ≤ j := by
  intro j hj
  simp only [Rg.own, List.mem_cons, Option.mem_toList] at hj
  rcases hj with rfl | hj
  · exact h.gn
  · exact h.pn j hj
theorem Wt15.at {xs : List Rv} {rs : List Rq} (h : Wt15 w0 t w xs rs) {t' : Option Nat} (ht : ∀ k, t' = some k → t' = t ∨ w.heap.size ≤ k) : Wt15 w0 t' w xs rs := by
  induction h with
  | nil => exact .nil
  | cons h1 _ ih =>
    refine .cons ⟨h1.is, h1.ok, h1.len, h1.row, h1.nb, fun a e q => ?_⟩ ih
    rcases ht _ q with r | r
    · exact h1.av a e (by rw [← r]; exact q)
    · obtain ⟨_, cur, hc⟩ := h1.nb a e
      have := lt_of_block hc
      omega
/-- Another row that is left alone. -/
theorem OwS.at (h : OwS w0 t w ob sb b n g pb C M rs) {t' : Option Nat} (ht : ∀ k, t' = some k → t' = t ∨ w.heap.size ≤ k) : OwS w0 t' w ob sb b n g pb C M rs := by
  obtain ⟨xs, hq, hw⟩ := h.q
  exact ⟨⟨xs, hq, hw.at ht⟩, h.sh, h.fr, h.gn, h.on, h.pn⟩
/-- Behind a change of that row. -/
theorem OwS.row (h : OwS w0 t w ob sb b n g pb C M rs) (hr : ∀ k, t = some k → w0.heap.size ≤ k ∧ ∃ cur, w.heap[k]? = some (.cells cur 3 (0, 0))) (hf : Fr t.toList w w') {t' : Option Nat} (ht : ∀ k, t' = some k → t' = t ∨ w.heap.size ≤ k) : OwS w0 t' w' ob sb b n g pb C M rs := by
  obtain ⟨xs, hq, hw⟩ := h.q
  have no : ∀ j cur tt, w.heap[j]? = some (.cells cur tt (0, 0)) → tt ≠ 3 → j ∉ t.toList := fun j cur tt e ht hm => by
    obtain ⟨_, c2, e2⟩ := hr j (Option.mem_toList.1 hm)
    rw [e] at e2
    simp only [Option.some.injEq, Obj.cells.injEq] at e2
    exact ht e2.2.1
  have hb : b ∉ t.toList := fun hm => by
    obtain ⟨_, c2, e2⟩ := hr b (Option.mem_toList.1 hm)
    obtain ⟨es, c, e⟩ := h.sh.mb
    rw [e] at e2
    cases e2
  have hring : ∀ j ∈ Rg.own g pb, j ∉ t.toList := fun j hj => by
    obtain ⟨cur, tt, e, hh⟩ := ring_is hq.rg hj
    exact no j cur tt e (by rcases hh with rfl | rfl <;> decide)
  refine ⟨⟨xs, ⟨hf.keep hq.box (no _ _ _ hq.box (by decide)), hq.rg.keep hf (hring g (by simp [Rg.own])) (fun k e => hring k (by simp [Rg.own, e]))⟩, ?_⟩, h.sh.keepS hf (no _ _ _ h.sh.box (by decide)) (fun j hj hm => ?_), h.fr.on hf (fun y hy => (hr y (Option.mem_toList.1 hy)).1), h.gn, h.on, h.pn⟩
  · clear hq h no hb hring
    induction hw with
    | nil => exact .nil
    | cons h1 _ ih =>
      refine .cons ⟨h1.is, h1.ok, h1.len, h1.row.keepS hf (fun _ a e hm => h1.av a e (Option.mem_toList.1 hm)), fun a e => ?_, fun a e q => ?_⟩ ih
      rotate_left
      · rcases ht _ q with r | r
        · exact h1.av a e (by rw [← r]; exact q)
        · obtain ⟨_, cur, hc⟩ := h1.nb a e
          have := lt_of_block hc
          omega
      obtain ⟨k1, cur, hc⟩ := h1.nb a e
      exact ⟨k1, cur, hf.keep hc (fun hm => h1.av a e (Option.mem_toList.1 hm))⟩
  · rcases hm with rfl | ⟨⟨_, cur, e⟩, _⟩
    · exact hb hj
    · exact no j cur _ e (by decide) hj
/-- The shard behind a change of the ring. -/
theorem OwS.shR (h : OwS w0 t w ob sb b n g pb C M rs) (hf : Fr (Rg.own g pb) w w') : Sh w0 w' sb b n M := by
  obtain ⟨xs, hq, hw⟩ := h.q
  refine h.sh.keepS hf (ring_not hq.rg h.sh.box (by decide) (by decide)) (fun j hj hm => ?_)
  obtain ⟨cur, t, e, ht⟩ := ring_is hq.rg hj
  rcases hm with rfl | ⟨⟨_, c2, e2⟩, _⟩
  · exact ring_nb hq.rg h.sh.mb hj
  · rw [e] at e2
    simp only [Option.some.injEq, Obj.cells.injEq] at e2
    rcases ht with rfl | rfl <;> exact absurd e2.2.1 (by decide)
end
end
end Go.Proofs.YtomajifklajilaaGreat
/- An owner's New, Ask, Serve, Len, Room, All, with its shard. Conditions as each names them. -/
namespace Go.Proofs.YtomajifklajilaaGreat
open Go.ChangeShapes Go.WideShapes Go.ChangeAt Go.RowKit Go.Lib Go.Maps
set_option linter.unusedVariables false
set_option linter.unusedSimpArgs false
theorem Rg.move {w w' : World} {g C : Nat} {pb : Option Nat} {xs : List Rv} {cl : Bool} (h : Rg w g pb C xs cl) (hk : ∀ j ∈ Rg.own g pb, w'.heap[j]? = w.heap[j]?) : Rg w' g pb C xs cl := by
  obtain ⟨N, F, K, ps, hR⟩ := h
  exact ⟨N, F, K, ps, (hk g (by simp [Rg.own])).trans hR.box, hR.pl, fun b e => (hk b (by simp [Rg.own, e])).trans (hR.row b e), hR.none_, hR.cap⟩
theorem OwF.new {w w1 w2 : World} {b : Nat} {T : List Nat} (h : OwF b w w1) (hf : Fr T w1 w2) (hT : ∀ j ∈ T, w.heap.size ≤ j) (hb : b < w.heap.size) : OwF b w w2 := by
  obtain ⟨S, hS, hm⟩ := h
  refine ⟨S, hS.trans hf (fun x hx _ => hx) (fun x hx hl => absurd (hT x hx) (by omega)), fun hb' => ⟨(hm hb').1, fun j hr => (hm hb').2 j (hr.back hf (fun hm => absurd (hT b hm) (by omega)) (Nat.lt_of_lt_of_le hb hS.size))⟩⟩
section
variable {t : Option Nat} {w0 w : World} {ob sb b n g C : Nat} {pb : Option Nat} {M : ByteArray → List Vn} {rs : List Rq} {xs : List Rv}
/-- Rows of the shard lie ahead of what is new. -/
theorem OwS.old (h : OwS w0 t w ob sb b n g pb C M rs) {W Wd : World} (hFW : Fr (Rg.own g pb) w W) (hd : Fr [] W Wd) {j : Nat} (hr : RowOf Wd b j) : j < w.heap.size := by
  obtain ⟨xs, hq, _⟩ := h.q
  have hb := ring_nb hq.rg h.sh.mb
  have r2 := (hr.back hd (by simp) (Nat.lt_of_lt_of_le h.sh.bl hFW.size)).back hFW hb h.sh.bl
  obtain ⟨_, cur, e⟩ := h.sh.rowLt r2
  exact lt_of_block e
/-- What a deed leaves alone. -/
theorem serve_far (h : OwS w0 t w ob sb b n g pb C M rs) {W Wd w1 w2 : World} (hFW : Fr (Rg.own g pb) w W) (hQ : OwQ W ob g ⟨sb, 0, none⟩ pb C xs) (hd : Fr [] W Wd) (hS : FrS w0 b Wd w1) (hf : Fr [W.heap.size + 1] w1 w2) :
    W.heap.size ≤ w2.heap.size ∧ (∀ j, w.heap.size ≤ j → j < W.heap.size → w2.heap[j]? = W.heap[j]?) ∧ w2.heap[ob]? = W.heap[ob]? := by
  have hbl := h.sh.bl
  have s1 := hFW.size
  have s2 := hd.size
  have s3 := hS.size
  have s4 := hf.size
  refine ⟨by omega, fun j h1 h2 => ?_, ?_⟩
  · have e : W.heap[j]? = some W.heap[j] := Array.getElem?_eq_getElem h2
    have e2 : Wd.heap[j]? = some W.heap[j] := (hd.block j h2 (by simp)).trans e
    have e3 := hS.apart (by omega) e2 (by omega) (fun hr => by have := h.old hFW hd hr; omega)
    rw [e, hf.block j (by omega) (by simp; omega)]
    exact e3
  · have e := hQ.box
    have hmb : ∃ es c, Wd.heap[b]? = some (.map es c) := ((h.shR hFW).keep hd).mb
    have e3 := hS.keep (hd.keep e (by simp)) hmb (by decide)
    have := hQ.lt
    rw [e, hf.block ob (by omega) (by simp; omega)]
    exact e3
/-- What is left behind a Serve. -/
theorem serve_end {r : Rq} {x : Rv} {xs : List Rv} (h : OwS w0 t w ob sb b n g pb C M (r :: rs)) (hw : OwQ w ob g ⟨sb, 0, none⟩ pb C (x :: xs)) (ht : Wt15 w0 t w xs rs) {W Wd w1 w2 w3 : World} {T : List Nat} {n' : Nat} {M' : ByteArray → List Vn} (hFW : Fr (Rg.own g pb) w W) (hQ : OwQ W ob g ⟨sb, 0, none⟩ pb C xs) (hd : Fr [] W Wd) (hds : W.heap.size + 2 ≤ Wd.heap.size) (hS : FrS w0 b Wd w1) (hf : Fr [W.heap.size + 1] w1 w2) (hT : Fr T w2 w3) (hT2 : ∀ j ∈ T, w.heap.size ≤ j ∧ j < W.heap.size) (hSh : Sh w0 w1 sb b n' M') :
    OwS w0 t w3 ob sb b n' g pb C M' rs ∧ OwF b w w3 ∧ (∀ j, Wd.heap.size ≤ j → j < w1.heap.size → w3.heap[j]? = w1.heap[j]?) ∧ (∀ j, w1.heap.size ≤ j → j < w2.heap.size → w3.heap[j]? = w2.heap[j]?) := by
  have hbl := h.sh.bl
  have s1 := hFW.size
  have s2 := hd.size
  have s3 := hS.size
  have s4 := hf.size
  have s5 := hT.size
  have s0 := h.fr.size
  have hmb : ∃ es c, Wd.heap[b]? = some (.map es c) := ((h.shR hFW).keep hd).mb
  have olds : ∀ j, RowOf w1 b j → j < w.heap.size ∨ Wd.heap.size ≤ j := fun j hr => by
    rcases hS.rows (by omega) hr with q | q
    · exact Or.inl (h.old hFW hd q)
    · exact Or.inr q
  -- what lies there at w and is of another type
  have keepT : ∀ j cs t, w.heap[j]? = some (.cells cs t (0, 0)) → j ∉ Rg.own g pb → t ≠ 110 → w3.heap[j]? = some (.cells cs t (0, 0)) := fun j cs t e ho hv => by
    have hl := lt_of_block e
    have e2 := hS.keep (hd.keep (hFW.keep e ho) (by simp)) hmb hv
    exact hT.keep (hf.keep e2 (by simp; omega)) (fun hm => by have := (hT2 j hm).1; omega)
  have bS : sb < w.heap.size := lt_of_block h.sh.box
  refine ⟨⟨⟨xs, ⟨?_, ?_⟩, ht.keep (fun j cs hj => keepT j cs _ hj (ring_not hw.rg hj (by decide) (by decide)) (by decide)) (by omega)⟩, ?_, ?_, h.gn, h.on, h.pn⟩, ?_, ?_, ?_⟩
  · exact keepT ob _ _ hw.box hw.no (by decide)
  · refine hQ.rg.move (fun j hj => ?_)
    obtain ⟨cur, t, e, htt⟩ := ring_is hQ.rg hj
    obtain ⟨cur0, t0, e0, _⟩ := ring_is hw.rg hj
    have hl := lt_of_block e0
    have hv : t ≠ 110 := by rcases htt with rfl | rfl <;> decide
    have e2 := hS.keep (hd.keep e (by simp)) hmb hv
    rw [e]
    exact hT.keep (hf.keep e2 (by simp; omega)) (fun hm => by have := (hT2 j hm).1; omega)
  · have k1 : Sh w0 w2 sb b n' M' := hSh.keepS hf (by simp; omega) (fun j hj hm => by
      simp only [List.mem_singleton] at hj
      subst hj
      rcases hm with e | ⟨_, e⟩
      · omega
      · rcases olds _ e with q | q <;> omega)
    refine k1.keepS hT (fun hm => by have := (hT2 sb hm).1; omega) (fun j hj hm => ?_)
    obtain ⟨q1, q2⟩ := hT2 j hj
    rcases hm with e | ⟨_, e⟩
    · omega
    · rcases olds _ (e.back hf (by simp; omega) (by omega)) with q | q <;> omega
  · have f1 : Fr [] w0 W := h.fr.on hFW h.own
    have f2 : Fr [] w0 w1 := hS.below h.sh.bn (f1.then hd) (by omega)
    exact (f2.on hf (by intro y hy; simp at hy; omega)).on hT (fun y hy => by have := (hT2 y hy).1; omega)
  · have f1 := ((OwF.ofR hw.rg h.sh.mb hFW).then (OwF.of hd)).then (OwF.ofS hS)
    exact (f1.new hf (by intro y hy; simp at hy; omega) hbl).new hT (fun y hy => (hT2 y hy).1) hbl
  · intro j h1 h2
    rw [hT.block j (by omega) (fun hm => by have := (hT2 j hm).2; omega), hf.block j h2 (by simp; omega)]
  · intro j h1 h2
    exact hT.block j h2 (fun hm => by have := (hT2 j hm).2; omega)
theorem owns_move {w1 w3 : World} {B B' : Nat} {e : TypeId} {sz : Nat} {v : Value} {N : Nat} {xs : List Value} (h : w1.ownsRow B e sz v N xs) (hk : ∀ j, B ≤ j → j < w1.heap.size → w3.heap[j]? = w1.heap[j]?) (hB : B' ≤ B) : w3.ownsRow B' e sz v N xs := by
  refine ⟨h.1, ?_⟩
  rcases h.2 with h0 | ⟨g, cap, cur, hv, hg, hb, hr⟩
  · exact .inl h0
  · exact .inr ⟨g, cap, cur, hv, by omega, (hk g hg (lt_of_block hb)).trans hb, hr⟩
theorem VOut.move {w w' w1 w3 : World} {ro : Option Addr} {N rc : Nat} {vs : List Vn} (h : VOut w w1 ro N rc vs) (hk : ∀ j, w.heap.size ≤ j → j < w1.heap.size → w3.heap[j]? = w1.heap[j]?) (hB : w'.heap.size ≤ w.heap.size) : VOut w' w3 ro N rc vs := by
  obtain ⟨rc', hr, ho⟩ := h.own
  exact ⟨⟨rc', hr, owns_move ho hk hB⟩, h.len, h.cap⟩
theorem HOut.move {w w' w1 w3 : World} {ro : Option Addr} {N rc : Nat} {hs : List Hd} (h : HOut w w1 ro N rc hs) (hk : ∀ j, w.heap.size ≤ j → j < w1.heap.size → w3.heap[j]? = w1.heap[j]?) (hB : w'.heap.size ≤ w.heap.size) : HOut w' w3 ro N rc hs := ⟨h.len, owns_move h.row hk hB, fun x hx => (h.each x hx).move hk hB, h.apart⟩
theorem EOut.move {w w' w1 w3 : World} {ro : Option Addr} {N rc : Nat} {ps : List Pr} (h : EOut w w1 ro N rc ps) (hk : ∀ j, w.heap.size ≤ j → j < w1.heap.size → w3.heap[j]? = w1.heap[j]?) (hB : w'.heap.size ≤ w.heap.size) : EOut w' w3 ro N rc ps := ⟨h.len, owns_move h.row hk hB⟩
/-- What a reply says. -/
def Rep (M : ByteArray → List Vn) (r : Rq) (M' : ByteArray → List Vn) (n : Nat) (ok : Bool) (eo : Option Addr) (el ec : Nat) (ho : Option Addr) (hl hc : Nat) (c : Int) (w w2 : World) : Prop :=
  (r.k = 1 ∧ (eo = none ∧ el = 0 ∧ ec = 0) ∧ (ho = none ∧ hl = 0 ∧ hc = 0) ∧ c = 0 ∧ ∃ cc, InTold M ⟨r.n, r.wk, r.wv, r.wd⟩ M' ok cc) ∨
  (r.k = 2 ∧ (ho = none ∧ hl = 0 ∧ hc = 0) ∧ c = 0 ∧ M' = M ∧ ((ok = false ∧ valAt (M r.key) r.n = none ∧ eo = none ∧ el = 0 ∧ ec = 0) ∨ (ok = true ∧ ∃ v, valAt (M r.key) r.n = some v ∧ el = 1 ∧ EOut w w2 eo el ec [(r.key, v)]))) ∨
  (r.k = 3 ∧ ok = true ∧ (ho = none ∧ hl = 0 ∧ hc = 0) ∧ c = 0 ∧ M' = M ∧ el ≤ n ∧ ∃ ps, EOut w w2 eo el ec ps ∧ Is (atMark M r.key r.en r.n) ps) ∨
  (r.k = 4 ∧ ok = true ∧ (eo = none ∧ el = 0 ∧ ec = 0) ∧ (ho = none ∧ hl = 0 ∧ hc = 0) ∧ M' = (fun s => colV (M s) r.n) ∧ ∃ S : Nat, c = S ∧ GoT M r.n S) ∨
  (r.k = 5 ∧ ok = true ∧ (eo = none ∧ el = 0 ∧ ec = 0) ∧ c = 0 ∧ M' = M ∧ hl ≤ n ∧ ∃ hs, HOut w w2 ho hl hc hs ∧ PkT M (fun s => dmp (M s) r.n r.bs) hs)
theorem dW_size {W : World} {k f n : Int} {wk wv : ByteArray} {wd : Bool} {key en : ByteArray} {bo : Option Addr} {bl bc : Nat} : W.heap.size + 2 ≤ (dW W k f n wk wv wd key en bo bl bc).heap.size := by unfold dW; simp
/-- The reply's box behind the shard's call. -/
theorem box_keep {W w1 : World} {k f n : Int} {wk wv : ByteArray} {wd : Bool} {key en : ByteArray} {bo : Option Addr} {bl bc : Nat} (hS : FrS w0 b (dW W k f n wk wv wd key en bo bl bc) w1) (hm : ∃ es c, (dW W k f n wk wv wd key en bo bl bc).heap[b]? = some (.map es c)) : w1.heap[W.heap.size + 1]? = some (.cells #[.int .i64 0, .bool false, .slice none 0 0, .slice none 0 0, .int .i64 0] 56 (0, 0)) := hS.keep dW_row hm (by decide)
set_option maxHeartbeats 1000000 in
theorem os_serve {r : Rq} (h : OwS w0 t w ob sb b n g pb C M (r :: rs)) (hn : n < 3518437208882) : Calls Tryz.prog 13 #[.pointer (some ⟨ob, 0, none⟩)] w fun e w' => ∃ ok eo el ec ho hl hc c M', e = .returned (.tuple #[.agg #[.int .i64 r.f, .bool ok, .slice eo el ec, .slice ho hl hc, .int .i64 c], .int .i64 0]) ∧ OwS w0 t w' ob sb b (n + 1) g pb C M' rs ∧ OwF b w w' ∧ Rep M r M' n ok eo el ec ho hl hc c w w' := by
  obtain ⟨xs', hq, hw⟩ := h.q
  cases hw with
  | cons h1 ht =>
    rename_i x xs
    obtain ⟨xk, xf, xn, xa, xb, xd, xc, xe, xo, xl, xm⟩ := x
    obtain ⟨hi, hok, hlen, hrow, hnb, hav⟩ := h1
    obtain ⟨rk, rf, rn, ra, rb, rd, rc, re, rbs⟩ := r
    simp only [Rv.q, Rq.mk.injEq] at hi
    obtain ⟨rfl, rfl, rfl, rfl, rfl, rfl, rfl, rfl, _⟩ := hi
    simp only at hlen hrow
    obtain ⟨o1, o2, o3, ho⟩ := hok
    simp only at o1 o2 o3 ho
    have s0 := h.fr.size
    have mb : ∀ {W : World} (hFW : Fr (Rg.own g pb) w W), ∃ es c, (dW W xk xf xn xa xb xd xc xe xo xl xm).heap[b]? = some (.map es c) := fun hFW => ((h.shR hFW).keep dW_fr).mb
    rcases ho with ⟨rfl, ⟨e1, e2⟩, e3, e4, e5, e6⟩ | ⟨rfl, e1, e2, e3, e4⟩ | ⟨rfl, e1, e2, e3, e4⟩ | ⟨rfl, e1, e2, e3⟩ | ⟨rfl, e1, e2, e3⟩
    · refine (oserve_1 hq (fun ok eo el ec ho hl hc c W w' => ∃ M' w1 cc, (eo = none ∧ el = 0 ∧ ec = 0) ∧ (ho = none ∧ hl = 0 ∧ hc = 0) ∧ c = 0 ∧ InTold M ⟨xn, xa, xb, xd⟩ M' ok cc ∧ Sh w0 w1 sb b (n + 1) M' ∧ FrS w0 b (dW W 1 xf xn xa xb xd xc xe xo xl xm) w1 ∧ Fr [W.heap.size + 1] w1 w') (fun W Q hFW hs hQ hc => ?_)).mono ?_
      · refine (odeed1_in hc (fun ok c w1 => ∃ M' cc, InTold M ⟨xn, xa, xb, xd⟩ M' ok cc ∧ Sh w0 w1 sb b (n + 1) M' ∧ FrS w0 b (dW W 1 xf xn xa xb xd xc xe xo xl xm) w1) ((hinstall_any xn xa xb xd _ ((h.shR hFW).keep dW_fr) (by have := hFW.size; have := (dW_fr (w := W) (k := 1) (f := xf) (n := xn) (wk := xa) (wv := xb) (wd := xd) (key := xc) (en := xe) (bo := xo) (bl := xl) (bc := xm)).size; omega) ⟨by have := e6.1.2; simp only; omega, by have := e6.2.1; simp only; omega, by simp only; omega, by simp only; omega⟩ (by omega)).mono ?_)).mono ?_
        · rintro e w1 ⟨ok, cc, M', rfl, hI, hSh, hF⟩
          exact ⟨ok, _, rfl, ⟨M', cc, hI, hSh, hF⟩, box_keep hF (mb hFW)⟩
        · rintro e w2 ⟨ok, c, w1, rfl, ⟨M', cc, hI, hSh, hF⟩, hf⟩
          exact ⟨ok, none, 0, 0, none, 0, 0, 0, rfl, ⟨M', w1, cc, ⟨rfl, rfl, rfl⟩, ⟨rfl, rfl, rfl⟩, rfl, hI, hSh, hF, hf⟩, serve_far h hFW hQ dW_fr hF hf⟩
      · rintro e w3 ⟨ok, eo, el, ec, ho, hl, hc, c, W, w2, rfl, hFW, hs, hQ, ⟨M', w1, cc, a1, a2, a3, hI, hSh, hF, hf⟩, _, T, hT, hT2⟩
        obtain ⟨z1, z2, z3, z4⟩ := serve_end h hq ht hFW hQ dW_fr dW_size hF hf hT hT2 hSh
        exact ⟨ok, eo, el, ec, ho, hl, hc, c, M', rfl, z1, z2, Or.inl ⟨rfl, a1, a2, a3, cc, hI⟩⟩
    · refine (oserve_2 hq (fun ok eo el ec ho hl hc c W w' => ∃ w1, (ho = none ∧ hl = 0 ∧ hc = 0) ∧ c = 0 ∧ ((ok = false ∧ valAt (M xc) xn = none ∧ eo = none ∧ el = 0 ∧ ec = 0) ∨ (ok = true ∧ ∃ v E, valAt (M xc) xn = some v ∧ eo = some ⟨E, 0, none⟩ ∧ el = 1 ∧ ec = 1 ∧ w1.heap.size ≤ E ∧ w'.heap[E]? = some (.cells #[.string xc, .string v] 67 (0, 0)))) ∧ Fr [] (dW W 2 xf xn xa xb xd xc xe xo xl xm) w1 ∧ Fr [W.heap.size + 1] w1 w') (fun W Q hFW hs hQ hc => ?_)).mono ?_
      · refine (odeed2_in hc (fun v o w1 => (v = (valAt (M xc) xn).getD noS ∧ o = (valAt (M xc) xn).isSome) ∧ Fr [] (dW W 2 xf xn xa xb xd xc xe xo xl xm) w1) ((hget_any xc xn _ ((h.shR hFW).keep dW_fr) (by have := e3.2; omega)).mono ?_)).mono ?_
        · rintro e w1 ⟨rfl, hF⟩
          exact ⟨_, _, rfl, ⟨⟨rfl, rfl⟩, hF⟩, hF.keep dW_row (by simp), hF⟩
        · rintro e w2 ⟨v, o, w1, ⟨⟨rfl, rfl⟩, hF⟩, ⟨k1, rfl, hf⟩ | ⟨k1, E, rfl, hE, hEr, hf⟩⟩
          · exact ⟨false, none, 0, 0, none, 0, 0, 0, rfl, ⟨w1, ⟨rfl, rfl, rfl⟩, rfl, Or.inl ⟨rfl, by simpa using k1, rfl, rfl, rfl⟩, hF, hf⟩, serve_far h hFW hQ dW_fr (FrS.of hF) hf⟩
          · obtain ⟨v, hv⟩ := Option.isSome_iff_exists.1 k1
            rw [hv] at hEr
            exact ⟨true, some ⟨E, 0, none⟩, 1, 1, none, 0, 0, 0, rfl, ⟨w1, ⟨rfl, rfl, rfl⟩, rfl, Or.inr ⟨rfl, v, E, hv, rfl, rfl, rfl, hE, hEr⟩, hF, hf⟩, serve_far h hFW hQ dW_fr (FrS.of hF) hf⟩
      · rintro e w3 ⟨ok, eo, el, ec, ho, hl, hc, c, W, w2, rfl, hFW, hs, hQ, ⟨w1, a1, a2, a3, hF, hf⟩, _, T, hT, hT2⟩
        obtain ⟨z1, z2, z3, z4⟩ := serve_end h hq ht hFW hQ dW_fr dW_size (FrS.of hF) hf hT hT2 (((h.shR hFW).keep (dW_fr.then hF)).mono (Nat.le_succ n))
        refine ⟨ok, eo, el, ec, ho, hl, hc, c, M, rfl, z1, z2, Or.inr (Or.inl ⟨rfl, a1, a2, rfl, ?_⟩)⟩
        rcases a3 with a3 | ⟨rfl, v, E, hv, rfl, rfl, rfl, hE, hEr⟩
        · exact Or.inl a3
        · refine Or.inr ⟨rfl, v, hv, rfl, rfl, rfl, .inr ⟨E, 1, _, rfl, ?_, (z4 E hE (lt_of_block hEr)).trans hEr, Nat.le_refl _, by unfold maxLen; omega, rfl, rfl⟩⟩
          have := hFW.size
          have := hF.size
          have := (dW_fr (w := W) (k := 2) (f := xf) (n := xn) (wk := xa) (wv := xb) (wd := xd) (key := xc) (en := xe) (bo := xo) (bl := xl) (bc := xm)).size
          omega
    · refine (oserve_3 hq (fun ok eo el ec ho hl hc c W w' => ∃ w1 ps, ok = true ∧ (ho = none ∧ hl = 0 ∧ hc = 0) ∧ c = 0 ∧ EOut (dW W 3 xf xn xa xb xd xc xe xo xl xm) w1 eo el ec ps ∧ el ≤ n ∧ Is (atMark M xc xe xn) ps ∧ Fr [] (dW W 3 xf xn xa xb xd xc xe xo xl xm) w1 ∧ Fr [W.heap.size + 1] w1 w') (fun W Q hFW hs hQ hc => ?_)).mono ?_
      · refine (odeed3_in hc (fun ro N rc w1 => ∃ ps, EOut (dW W 3 xf xn xa xb xd xc xe xo xl xm) w1 ro N rc ps ∧ N ≤ n ∧ Is (atMark M xc xe xn) ps ∧ Fr [] (dW W 3 xf xn xa xb xd xc xe xo xl xm) w1) ((hScan_any xc xe xn _ ((h.shR hFW).keep dW_fr) (by omega)).mono ?_)).mono ?_
        · rintro e w1 ⟨ro, N, rc, ps, rfl, h5, h6, h7, hF⟩
          exact ⟨_, _, _, rfl, ⟨ps, h5, h6, h7, hF⟩, hF.keep dW_row (by simp)⟩
        · rintro e w2 ⟨ro, N, rc, w1, rfl, ⟨ps, h5, h6, h7, hF⟩, hf⟩
          exact ⟨true, ro, N, rc, none, 0, 0, 0, rfl, ⟨w1, ps, rfl, ⟨rfl, rfl, rfl⟩, rfl, h5, h6, h7, hF, hf⟩, serve_far h hFW hQ dW_fr (FrS.of hF) hf⟩
      · rintro e w3 ⟨ok, eo, el, ec, ho, hl, hc, c, W, w2, rfl, hFW, hs, hQ, ⟨w1, ps, a1, a2, a3, h5, h6, h7, hF, hf⟩, _, T, hT, hT2⟩
        obtain ⟨z1, z2, z3, z4⟩ := serve_end h hq ht hFW hQ dW_fr dW_size (FrS.of hF) hf hT hT2 (((h.shR hFW).keep (dW_fr.then hF)).mono (Nat.le_succ n))
        refine ⟨ok, eo, el, ec, ho, hl, hc, c, M, rfl, z1, z2, Or.inr (Or.inr (Or.inl ⟨rfl, a1, a2, a3, rfl, h6, ps, h5.move z3 ?_, h7⟩))⟩
        have := hFW.size
        have := (dW_fr (w := W) (k := 3) (f := xf) (n := xn) (wk := xa) (wv := xb) (wd := xd) (key := xc) (en := xe) (bo := xo) (bl := xl) (bc := xm)).size
        omega
    · refine (oserve_4 hq (fun ok eo el ec ho hl hc c W w' => ∃ w1 S, ok = true ∧ (eo = none ∧ el = 0 ∧ ec = 0) ∧ (ho = none ∧ hl = 0 ∧ hc = 0) ∧ c = ((S : Nat) : Int) ∧ GoT M xn S ∧ Sh w0 w1 sb b n (fun s => colV (M s) xn) ∧ FrS w0 b (dW W 4 xf xn xa xb xd xc xe xo xl xm) w1 ∧ Fr [W.heap.size + 1] w1 w') (fun W Q hFW hs hQ hc => ?_)).mono ?_
      · refine (odeed4_in hc (fun c w1 => ∃ S, c = ((S : Nat) : Int) ∧ GoT M xn S ∧ Sh w0 w1 sb b n (fun s => colV (M s) xn) ∧ FrS w0 b (dW W 4 xf xn xa xb xd xc xe xo xl xm) w1) ((hcollect_any xn _ ((h.shR hFW).keep dW_fr) (by have := hFW.size; have := (dW_fr (w := W) (k := 4) (f := xf) (n := xn) (wk := xa) (wv := xb) (wd := xd) (key := xc) (en := xe) (bo := xo) (bl := xl) (bc := xm)).size; omega) (by omega)).mono ?_)).mono ?_
        · rintro e w1 ⟨S, rfl, h5, _, hSh, hF⟩
          exact ⟨_, rfl, ⟨S, rfl, h5, hSh, hF⟩, box_keep hF (mb hFW)⟩
        · rintro e w2 ⟨c, w1, rfl, ⟨S, rfl, h5, hSh, hF⟩, hf⟩
          exact ⟨true, none, 0, 0, none, 0, 0, _, rfl, ⟨w1, S, rfl, ⟨rfl, rfl, rfl⟩, ⟨rfl, rfl, rfl⟩, rfl, h5, hSh, hF, hf⟩, serve_far h hFW hQ dW_fr hF hf⟩
      · rintro e w3 ⟨ok, eo, el, ec, ho, hl, hc, c, W, w2, rfl, hFW, hs, hQ, ⟨w1, S, a1, a2, a3, a4, h5, hSh, hF, hf⟩, _, T, hT, hT2⟩
        obtain ⟨z1, z2, z3, z4⟩ := serve_end h hq ht hFW hQ dW_fr dW_size hF hf hT hT2 (hSh.mono (Nat.le_succ n))
        exact ⟨ok, eo, el, ec, ho, hl, hc, c, _, rfl, z1, z2, Or.inr (Or.inr (Or.inr (Or.inl ⟨rfl, a1, a2, a3, rfl, S, a4, h5⟩)))⟩
    · refine (oserve_5 hq (fun ok eo el ec ho hl hc c W w' => ∃ w1 hs, ok = true ∧ (eo = none ∧ el = 0 ∧ ec = 0) ∧ c = 0 ∧ HOut (dW W 5 xf xn xa xb xd xc xe xo xl xm) w1 ho hl hc hs ∧ hl ≤ n ∧ PkT M (fun s => dmp (M s) xn rbs) hs ∧ Fr [] (dW W 5 xf xn xa xb xd xc xe xo xl xm) w1 ∧ Fr [W.heap.size + 1] w1 w') (fun W Q hFW hs hQ hc => ?_)).mono ?_
      · have hIW : IRs W xo rbs := hrow.keepS hFW (fun _ a e hm => by
          obtain ⟨_, cur, hcur⟩ := hnb a e
          exact ring_not hq.rg hcur (by decide) (by decide) hm)
        refine (odeed5_in hc (fun ro N rc w1 => ∃ hs, HOut (dW W 5 xf xn xa xb xd xc xe xo xl xm) w1 ro N rc hs ∧ N ≤ n ∧ PkT M (fun s => dmp (M s) xn rbs) hs ∧ Fr [] (dW W 5 xf xn xa xb xd xc xe xo xl xm) w1) ((hdump_any xn xo xl xm rbs _ ((h.shR hFW).keep dW_fr) (by omega) (hIW.keep dW_fr) hlen).mono ?_)).mono ?_
        · rintro e w1 ⟨ro, N, rc, hs, rfl, h5, h6, h7, hF⟩
          exact ⟨_, _, _, rfl, ⟨hs, h5, h6, h7, hF⟩, hF.keep dW_row (by simp)⟩
        · rintro e w2 ⟨ro, N, rc, w1, rfl, ⟨hs, h5, h6, h7, hF⟩, hf⟩
          exact ⟨true, none, 0, 0, ro, N, rc, 0, rfl, ⟨w1, hs, rfl, ⟨rfl, rfl, rfl⟩, rfl, h5, h6, h7, hF, hf⟩, serve_far h hFW hQ dW_fr (FrS.of hF) hf⟩
      · rintro e w3 ⟨ok, eo, el, ec, ho, hl, hc, c, W, w2, rfl, hFW, hs, hQ, ⟨w1, hs', a1, a2, a3, h5, h6, h7, hF, hf⟩, _, T, hT, hT2⟩
        obtain ⟨z1, z2, z3, z4⟩ := serve_end h hq ht hFW hQ dW_fr dW_size (FrS.of hF) hf hT hT2 (((h.shR hFW).keep (dW_fr.then hF)).mono (Nat.le_succ n))
        refine ⟨ok, eo, el, ec, ho, hl, hc, c, M, rfl, z1, z2, Or.inr (Or.inr (Or.inr (Or.inr ⟨rfl, a1, a2, a3, rfl, h6, hs', h5.move z3 ?_, h7⟩)))⟩
        have := hFW.size
        have := (dW_fr (w := W) (k := 5) (f := xf) (n := xn) (wk := xa) (wv := xb) (wd := xd) (key := xc) (en := xe) (bo := xo) (bl := xl) (bc := xm)).size
        omega
end
end Go.Proofs.YtomajifklajilaaGreat
/- An owner's New, Ask, Len, Room, All, with its shard. Conditions as each names them. -/
namespace Go.Proofs.YtomajifklajilaaGreat
open Go.ChangeShapes Go.WideShapes Go.ChangeAt Go.RowKit Go.Lib Go.Maps
set_option linter.unusedVariables false
set_option linter.unusedSimpArgs false
section
variable {t : Option Nat} {w0 w : World} {ob sb b n g C : Nat} {pb : Option Nat} {M : ByteArray → List Vn} {rs : List Rq}
theorem OwS.few (h : OwS w0 t w ob sb b n g pb C M rs) : rs.length ≤ C ∧ 1 ≤ C := by
  obtain ⟨xs, hq, hw⟩ := h.q
  have := hq.rg.few
  have := hw.len
  omega
theorem os_ask (h : OwS w0 t w ob sb b n g pb C M rs) (hT : ∀ k, t = some k → k < w.heap.size) (x : Rv) (ns : List Int) (hR : RqB w x ns) : Calls Tryz.prog 17 #[.pointer (some ⟨ob, 0, none⟩), x.v] w fun e w' =>
    (¬ okR (x.q ns) ∧ e = .returned (.tuple #[.bool false, .int .i64 1]) ∧ OwS w0 t w' ob sb b n g pb C M rs ∧ Fr [] w w') ∨
    (okR (x.q ns) ∧ rs.length = C ∧ e = .returned (.tuple #[.bool false, .int .i64 0]) ∧ OwS w0 t w' ob sb b n g pb C M rs ∧ Fr [] w w') ∨
    (okR (x.q ns) ∧ rs.length < C ∧ e = .returned (.tuple #[.bool true, .int .i64 0]) ∧ ∃ pb', OwS w0 t w' ob sb b n g pb' C M (rs ++ [x.q ns]) ∧ OwF b w w') := by
  obtain ⟨xs, hq, hw⟩ := h.q
  by_cases hB : okR (x.q ns)
  · refine (oask_any hq x ns hR hB).mono ?_
    rintro e w' (⟨h1, rfl, hF⟩ | ⟨h1, rfl, ro, rc, pb', hQ, hI, hN, hF, hM⟩)
    · exact Or.inr (Or.inl ⟨hB, by rw [← hw.len]; exact h1, rfl, h.same hF, hF⟩)
    · refine Or.inr (Or.inr ⟨hB, by rw [← hw.len]; exact h1, rfl, pb', ⟨⟨_, hQ, (hw.keep (fun j cs hj => hF.keep hj (ring_not hq.rg hj (by decide) (by decide))) hF.size).snoc ⟨rfl, hB, hR.len, hI, fun a e => ?_, fun a e q => by have := hT _ q; have := (hN a e).1; omega⟩⟩, h.shR hF, h.fr.on hF h.own, h.gn, h.on, fun k e => ?_⟩, OwF.ofR hq.rg h.sh.mb hF⟩)
      · obtain ⟨k1, k2⟩ := hN a e
        exact ⟨by have := h.fr.size; omega, k2⟩
      · rcases hM with rfl | ⟨k', rfl, hk⟩
        · exact h.pn k e
        · cases e
          have := h.fr.size
          omega
  · refine (oask_no hq x ns hR hB).mono ?_
    rintro e w' ⟨rfl, hF⟩
    exact Or.inl ⟨hB, rfl, h.same hF, hF⟩
theorem os_idle (h : OwS w0 t w ob sb b n g pb C M []) : Calls Tryz.prog 13 #[.pointer (some ⟨ob, 0, none⟩)] w fun e w' => e = .returned (.tuple #[.agg #[.int .i64 0, .bool false, .slice none 0 0, .slice none 0 0, .int .i64 0], .int .i64 9]) ∧ OwS w0 t w' ob sb b n g pb C M [] ∧ Fr [] w w' := by
  obtain ⟨xs, hq, hw⟩ := h.q
  cases hw
  refine (oserve_nil hq).mono ?_
  rintro e w' ⟨rfl, hF⟩
  exact ⟨rfl, h.same hF, hF⟩
theorem os_len (h : OwS w0 t w ob sb b n g pb C M rs) (K : Nat) (hK : rs.length = K) : Calls Tryz.prog 20 #[.pointer (some ⟨ob, 0, none⟩)] w fun e w' => e = .returned (.int .i64 (K : Int)) ∧ w = w' := by
  obtain ⟨xs, hq, hw⟩ := h.q
  exact olen_any hq K (by rw [hw.len]; exact hK)
theorem os_room (h : OwS w0 t w ob sb b n g pb C M rs) (K : Nat) (hK : C - rs.length = K) : Calls Tryz.prog 22 #[.pointer (some ⟨ob, 0, none⟩)] w fun e w' => e = .returned (.int .i64 (K : Int)) ∧ Fr [] w w' := by
  obtain ⟨xs, hq, hw⟩ := h.q
  exact oroom_any hq K (by rw [hw.len]; exact hK)
theorem os_all (h : OwS w0 t w ob sb b n g pb C M rs) (hn : n < 3518437208883) : Calls Tryz.prog 25 #[.pointer (some ⟨ob, 0, none⟩)] w fun e w' => ∃ ro N rc hs, e = .returned (.slice ro N rc) ∧ HOut w w' ro N rc hs ∧ N ≤ n ∧ PkT M M hs ∧ Fr [] w w' := by
  obtain ⟨xs, hq, hw⟩ := h.q
  have HT : Hid (Calls _ _ _ _ _) := othere_any hq
  have HA : Hid (Calls _ _ _ _ _) := hall_any w h.sh hn
  have c0 := hq.c0
  clear h hq hw
  go_enter Tryz.func25, Tryz.ntmps25
  go_wp2_with fail
  refine Calls.mono HT.out ?_
  rintro e w1 ⟨rfl, rfl⟩
  go_wp2_with fail
  refine Calls.mono HA.out ?_
  rintro e w1 ⟨ro, N, rc, hs, rfl, hh⟩
  go_wp2
  go_ret
  exact ⟨ro, N, rc, hs, rfl, hh⟩
end
/-- May an owner be made of these? -/
def okN (sh q : Int) : Prop := 0 ≤ sh ∧ sh < 16 ∧ 1 ≤ q ∧ q ≤ 16
set_option maxHeartbeats 1000000 in
theorem onew_no (sh q : Int) (ao : Option Addr) (L cap : Nat) (w : World) (h : ¬ okN sh q) : Calls Tryz.prog 10 #[.int .i64 sh, .int .i64 q, .slice ao L cap] w fun e w' => e = .returned (.tuple #[.pointer none, .int .i64 1]) ∧ w = w' := by
  by_cases h1 : sh < 0
  · clear h
    go_enter Tryz.func10, Tryz.ntmps10
    go_wp2
    go_ret2
    exact ⟨rfl, rfl⟩
  by_cases h2 : 16 ≤ sh
  · clear h
    go_enter Tryz.func10, Tryz.ntmps10
    go_wp2
    go_ret2
    exact ⟨rfl, rfl⟩
  by_cases h3 : q < 1
  · clear h
    go_enter Tryz.func10, Tryz.ntmps10
    go_wp2
    go_ret2
    exact ⟨rfl, rfl⟩
  have h4 : 16 < q := by unfold okN at h; omega
  clear h
  go_enter Tryz.func10, Tryz.ntmps10
  go_wp2
  go_ret2
  exact ⟨rfl, rfl⟩
set_option maxHeartbeats 1000000 in
theorem oload_any (q : Int) (ao : Option Addr) (L cap : Nat) (hs : List Hd) (w : World) (hq : 1 ≤ q ∧ q ≤ 16) (hH : HRs w ao hs) (hL : L = hs.length) : Calls Tryz.prog 28 #[.int .i64 q, .slice ao L cap] w fun e w' =>
    (¬ LoOk hs ∧ e = .returned (.tuple #[.pointer none, .int .i64 1]) ∧ Fr [] w w') ∨ (LoOk hs ∧ ∃ ob sb b g, e = .returned (.tuple #[.pointer (some ⟨ob, 0, none⟩), .int .i64 0]) ∧ OwS w none w' ob sb b L g none q.toNat (mOf hs) []) := by
  have HLd : Hid (Calls _ _ _ _ _) := hload_any ao L cap hs w hH hL
  have HG : Hid (∀ W, Calls _ _ _ _ _) := fun W => gnew_any q W (by omega)
  clear hH hL
  go_enter Tryz.func28, Tryz.ntmps28
  go_wp2_with fail
  refine Calls.mono HLd.out ?_
  rintro e w1 (⟨hl, sb, b, rfl, hS, hF1⟩ | ⟨hl, rfl, hF1⟩)
  · have HS : Hid (Sh w w1 sb b L (mOf hs) ∧ Fr [] w w1 ∧ LoOk hs) := ⟨hS, hF1, hl⟩
    clear hS hF1 hl HLd
    go_wp2_with fail
    refine Calls.mono (HG.out _) ?_
    rintro e w2 ⟨g, rfl, hg, hR, hF2⟩
    have HR : Hid (Rg w2 g none q.toNat [] false ∧ Fr [] w1 w2 ∧ w1.heap.size ≤ g) := ⟨hR, hF2, hg⟩
    clear hR hF2 hg HG
    go_wp2
    go_ret2
    have s1 := HS.out.2.1.size
    have s2 := HR.out.2.1.size
    have fA := Fr.alloc [] w2 (.cells #[.pointer (some ⟨sb, 0, none⟩), .pointer (some ⟨g, 0, none⟩)] 45)
    exact Or.inr ⟨HS.out.2.2, w2.heap.size, sb, b, g, rfl, ⟨[], ⟨heap_alloc_new w2 _, HR.out.1.same fA⟩, .nil⟩, HS.out.1.keep (HR.out.2.1.then fA), HS.out.2.1.then (HR.out.2.1.then fA), by have := HR.out.2.2; omega, by omega, fun k e => by cases e⟩
  · have HS : Hid (Fr [] w w1 ∧ ¬ LoOk hs) := ⟨hF1, hl⟩
    clear hF1 hl HLd
    go_wp2
    go_ret2
    exact Or.inl ⟨HS.out.2, rfl, HS.out.1⟩
set_option maxHeartbeats 1000000 in
theorem onew_any (sh q : Int) (ao : Option Addr) (L cap : Nat) (hs : List Hd) (w : World) (h : okN sh q) (hH : HRs w ao hs) (hL : L = hs.length) : Calls Tryz.prog 10 #[.int .i64 sh, .int .i64 q, .slice ao L cap] w fun e w' =>
    (¬ LoOk hs ∧ e = .returned (.tuple #[.pointer none, .int .i64 1]) ∧ Fr [] w w') ∨ (LoOk hs ∧ ∃ ob sb b g, e = .returned (.tuple #[.pointer (some ⟨ob, 0, none⟩), .int .i64 0]) ∧ OwS w none w' ob sb b L g none q.toNat (mOf hs) []) := by
  obtain ⟨h1, h2, h3, h4⟩ := h
  have HLd : Hid (Calls _ _ _ _ _) := oload_any q ao L cap hs w ⟨h3, h4⟩ hH hL
  clear hH hL
  go_enter Tryz.func10, Tryz.ntmps10
  go_wp2_with fail
  refine Calls.mono HLd.out ?_
  rintro e w1 (⟨hl, rfl, hF1⟩ | ⟨hl, ob, sb, b, g, rfl, hO⟩)
  · go_wp2
    go_ret2
    exact Or.inl ⟨hl, rfl, hF1⟩
  · have HO : Hid (OwS w none w1 ob sb b L g none q.toNat (mOf hs) []) := hO
    clear hO HLd
    go_wp2
    go_ret2
    exact Or.inr ⟨hl, ob, sb, b, g, rfl, HO.out⟩
end Go.Proofs.YtomajifklajilaaGreat
