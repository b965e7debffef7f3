/- Contracts of mayBe and of fold's Get. Conditions as each names them. -/
import Derived.Test.YtfminnmfdogopaaCome
import Derived.Laws.Cover1
namespace Go.Proofs.Ytfminnmfdogopaa
open Go.ChangeShapes Go.WideShapes Go.ChangeAt Go.RowKit Go.Lib Go.Maps
set_option linter.unusedVariables false
set_option linter.unusedSimpArgs false

/-- May a key be? -/
def okK (key : ByteArray) : Bool := !(key.toList == []) && decide (key.size ≤ 64)
set_option maxHeartbeats 1000000 in
theorem mayBe_any (key : ByteArray) (B : Bool) (w : World) (hB : B = okK key) : Calls Try.prog 30 #[.string key] w fun e w' => e = .returned (.bool B) ∧ Fr [] w w' := by
  have hE0 : (⟨#[]⟩ : ByteArray).toList = [] := (tl_nil _).2 rfl
  unfold okK at hB
  by_cases h1 : key.toList = []
  · obtain ⟨E, hE⟩ : ∃ E, (key.toList == ([] : List UInt8)) = E := ⟨_, rfl⟩
    have hE1 : E = true := by rw [← hE, h1]; rfl
    have hE2 : (key.toList != ([] : List UInt8)) = false := by rw [bne, hE, hE1]; rfl
    have hBf : B = false := by rw [hB, hE, hE1]; rfl
    subst hBf
    clear hB h1
    go_enter Try.func30, Try.ntmps30
    go_wp2
    all_goals (go_ret; exact ⟨rfl, Fr.refl _ _⟩)
  · obtain ⟨E, hE⟩ : ∃ E, (key.toList == ([] : List UInt8)) = E := ⟨_, rfl⟩
    have hE1 : E = false := by rw [← hE]; simpa using h1
    have hE2 : (key.toList != ([] : List UInt8)) = true := by rw [bne, hE, hE1]; rfl
    have hBf : B = decide ((key.size : Int) ≤ 64) := by rw [hB, hE, hE1]; simp; omega
    rw [hBf]
    clear hB h1 hBf
    go_enter Try.func30, Try.ntmps30
    go_wp2
    all_goals (go_ret; exact ⟨rfl, Fr.refl _ _⟩)

theorem capplys_at (Pk : ByteArray → Bool) (s : ByteArray) (hs : Pk s = true) : ∀ (ws : List Wt) (E E' : ByteArray → Option ByteArray), E s = E' s → capplys Pk E ws s = capplys (fun _ => true) E' ws s
  | [], E, E', h => h
  | x :: ws, E, E', h => by
    show capplys Pk (capply Pk E x) ws s = capplys (fun _ => true) (capply (fun _ => true) E' x) ws s
    refine capplys_at Pk s hs ws _ _ ?_
    unfold capply
    rw [if_pos rfl]
    by_cases hk : Pk x.key = true
    · rw [if_pos hk]; unfold applyE; rw [h]
    · rw [if_neg hk]
      unfold applyE
      rw [if_neg (fun e => hk (by rw [← e]; exact hs)), h]
theorem capplys_off (Pk : ByteArray → Bool) (s : ByteArray) (hs : Pk s = false) : ∀ (ws : List Wt) (E : ByteArray → Option ByteArray), capplys Pk E ws s = E s
  | [], E => rfl
  | x :: ws, E => by
    show capplys Pk (capply Pk E x) ws s = E s
    rw [capplys_off Pk s hs ws]
    unfold capply
    by_cases hk : Pk x.key = true
    · rw [if_pos hk]; unfold applyE; rw [if_neg (fun e => by rw [e] at hs; rw [hs] at hk; cases hk)]
    · rw [if_neg hk]
theorem call_at' (Pk : ByteArray → Bool) (s : ByteArray) (hs : Pk s = true) : ∀ (l : List Tx) (E E' : ByteArray → Option ByteArray), E s = E' s → call Pk E l s = call (fun _ => true) E' l s
  | [], E, E', h => h
  | t :: l, E, E', h => call_at' Pk s hs l _ _ (capplys_at Pk s hs t.ws E E' h)
theorem call_off' (Pk : ByteArray → Bool) (s : ByteArray) (hs : Pk s = false) : ∀ (l : List Tx) (E : ByteArray → Option ByteArray), call Pk E l s = E s
  | [], E => rfl
  | t :: l, E => by
    show call Pk (capplys Pk E t.ws) l s = E s
    rw [call_off' Pk s hs l, capplys_off Pk s hs]
/-- What a log comes to. -/
def fo (l : List Tx) : ByteArray → Option ByteArray := call (fun _ => true) (fun _ => none) l
theorem call_fo (Pk : ByteArray → Bool) (l : List Tx) (s : ByteArray) : call Pk (fun _ => none) l s = if Pk s = true then fo l s else none := by
  by_cases h : Pk s = true
  · rw [if_pos h]; exact call_at' Pk s h l _ _ rfl
  · rw [if_neg h]; exact call_off' Pk s (by simpa using h) l _
/-- What Get tells. -/
def GTold (l : List Tx) (f : Int) (key : ByteArray) (val : ByteArray) (ok : Bool) (c : Nat) : Prop :=
  (CoTold l f c ∧ c ≠ 0 ∧ val = ⟨#[]⟩ ∧ ok = false) ∨ (CoTold l f 0 ∧ okK key = false ∧ c = 1 ∧ val = ⟨#[]⟩ ∧ ok = false) ∨
  (CoTold l f 0 ∧ okK key = true ∧ c = 0 ∧ val = (fo (l.take f.toNat) key).getD ⟨#[]⟩ ∧ ok = (fo (l.take f.toNat) key).isSome)
theorem GTold.ex (l : List Tx) (f : Int) (key : ByteArray) : ∃ val ok c, GTold l f key val ok c := by
  obtain ⟨c, hc⟩ := CoTold.ex l f
  by_cases h0 : c = 0
  · subst h0
    cases hk : okK key with
    | false => exact ⟨_, _, _, Or.inr (Or.inl ⟨hc, hk, rfl, rfl, rfl⟩)⟩
    | true => exact ⟨_, _, _, Or.inr (Or.inr ⟨hc, hk, rfl, rfl, rfl⟩)⟩
  · exact ⟨_, _, c, Or.inl ⟨hc, h0, rfl, rfl⟩⟩
theorem CoTold.ok0 {l : List Tx} {f : Int} (h : CoTold l f 0) : okL 1 l ∧ 0 ≤ f ∧ f ≤ (l.length : Int) := by
  rcases h with ⟨_, h0⟩ | ⟨_, _, h0⟩ | ⟨h1, h2, _⟩
  · exact absurd rfl h0
  · cases h0
  · exact ⟨h1, h2⟩
set_option maxHeartbeats 4000000 in
set_option maxRecDepth 100000 in
theorem fGet_any (ao : Option Addr) (L cap : Nat) (f : Int) (key val : ByteArray) (ok : Bool) (c : Nat) (ts : List Tm) (w : World) (hT : TRs w ao ts) (hLe : L = ts.length) (hcap : L ≤ cap) (hf0 : -9223372036854775808 ≤ f) (hf1 : f ≤ 9223372036854775807) (h : GTold (txs ts) f key val ok c) :
    Calls Try.prog 11 #[.slice ao L cap, .int .i64 f, .string key] w fun e w' => e = .returned (.tuple #[.string val, .bool ok, .int .i64 (c : Int)]) ∧ Fr [] w w' := by
  have HL : Hid (L = ts.length) := hLe
  have HI : Hid (∀ W, Fr [] w W → TRs W ao ts) := fun W hf => hT.keep hf
  rcases h with ⟨hc, h0, rfl, rfl⟩ | ⟨hc, hk, rfl, rfl, rfl⟩ | ⟨hc, hk, rfl, hv, ho⟩
  · have HC : Hid (CoTold (txs ts) f c ∧ c ≠ 0) := ⟨hc, h0⟩
    have hcb : ((c : Int) != 0) = true := by rw [bne_iff_ne]; omega
    clear hc h0 hLe
    go_enter Try.func11, Try.ntmps11
    go_wp2_with fail
    refine (only_any key _).mono ?_
    rintro e w1 ⟨b, rfl, hb, hbl, hF1⟩
    go_wp2_with fail
    refine (comeO_no ao L cap f c ts b key _ (HI.out _ hF1) HL.out hf0 hf1 HC.out.1 HC.out.2).mono ?_
    rintro e w2 ⟨rfl, hF2⟩
    have hG := hF1.then hF2
    clear hb hbl hF1 hF2
    go_wp2
    refine bodyPost_ret (results_tmp3 rfl _ _ _) rfl ?_
    exact ⟨rfl, hG⟩
  · obtain ⟨hok, hfn, hfl⟩ := hc.ok0
    obtain ⟨f', rfl⟩ : ∃ f' : Nat, f = (f' : Int) := ⟨f.toNat, by omega⟩
    have HO : Hid (okL 1 (txs ts) ∧ f' ≤ L) := ⟨hok, by rw [txs_length] at hfl; omega⟩
    clear hc hok hfl hfn hLe
    go_enter Try.func11, Try.ntmps11
    go_wp2_with fail
    refine (only_any key _).mono ?_
    rintro e w1 ⟨b, rfl, hb, hbl, hF1⟩
    go_wp2_with fail
    refine (comeO_ok ao L cap f' ts b key _ (HI.out _ hF1) HL.out hcap hb HO.out.1 HO.out.2).mono ?_
    rintro e w2 ⟨m, rfl, hm, hM, hF2⟩
    have hG := hF1.then hF2
    clear hb hbl hF1 hF2 hM
    go_wp2_with fail
    refine (mayBe_any key false _ hk.symm).mono ?_
    rintro e w3 ⟨rfl, hF3⟩
    have hG3 := hG.then hF3
    go_wp2
    refine bodyPost_ret (results_tmp3 rfl _ _ _) rfl ?_
    exact ⟨rfl, hG3⟩
  · obtain ⟨hok, hfn, hfl⟩ := hc.ok0
    obtain ⟨f', rfl⟩ : ∃ f' : Nat, f = (f' : Int) := ⟨f.toNat, by omega⟩
    have HO : Hid (okL 1 (txs ts) ∧ f' ≤ L) := ⟨hok, by rw [txs_length] at hfl; omega⟩
    have hkl : key.size ≤ 64 := by unfold okK at hk; simp at hk; exact hk.2
    have hks : key.size ≤ maxLen := by unfold maxLen; omega
    rw [Int.toNat_natCast] at hv ho
    obtain ⟨E, hE⟩ : ∃ E, E = call (fun s => s.toList == key.toList) (fun _ => none) ((txs ts).take f') := ⟨_, rfl⟩
    have hEk : E key = fo ((txs ts).take f') key := by rw [hE, call_fo]; simp
    rw [← hEk] at hv ho
    have HV : Hid (val = (E key).getD ⟨#[]⟩ ∧ ok = (E key).isSome) := ⟨hv, ho⟩
    clear hc hok hfl hfn hLe hv ho hEk
    go_enter Try.func11, Try.ntmps11
    go_wp2_with fail
    refine (only_any key _).mono ?_
    rintro e w1 ⟨b, rfl, hb, hbl, hF1⟩
    go_wp2_with fail
    refine (comeO_ok ao L cap f' ts b key _ (HI.out _ hF1) HL.out hcap hb HO.out.1 HO.out.2).mono ?_
    rintro e w2 ⟨m, rfl, hm, hM, hF2⟩
    rw [← hE] at hM
    have hG := hF1.then hF2
    clear hb hbl hF1 hF2 hE
    go_wp2_with fail
    refine (mayBe_any key true _ hk.symm).mono ?_
    rintro e w3 ⟨rfl, hF3⟩
    have hG3 := hG.then hF3
    have hM3 := hM.keep hF3 (by simp)
    have hlk := hM3.look key hks
    obtain ⟨hv, ho⟩ := HV.out
    clear HV hM hM3 hG hF3
    cases hEk : E key with
    | none =>
      rw [hEk] at hlk hv ho
      simp only [Option.getD_none, Option.isSome_none] at hlk hv ho
      subst hv ho
      go_wp2
      refine bodyPost_ret (results_tmp3 rfl _ _ _) rfl ?_
      exact ⟨rfl, hG3.then (Fr.alloc _ _ _)⟩
    | some x =>
      rw [hEk] at hlk hv ho
      simp only [Option.getD_some, Option.isSome_some] at hlk hv ho
      subst hv ho
      go_wp2
      refine bodyPost_ret (results_tmp3 rfl _ _ _) rfl ?_
      exact ⟨rfl, hG3.then (Fr.alloc _ _ _)⟩
end Go.Proofs.Ytfminnmfdogopaa
