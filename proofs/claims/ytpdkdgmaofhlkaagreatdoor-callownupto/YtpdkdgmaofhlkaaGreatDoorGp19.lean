/- Texts of this claim laid together, one behind the other: contracts and plain lemmas; conditions as each names them. -/
import Derived.Test.YtpdkdgmaofhlkaaGreatDoorGp18
import Derived.Shelf.SlSortCmp.PdqK
import Derived.Shelf.Lay
import Derived.Ground.SlsfProg
import Derived.Test.YtpdkdgmaofhlkaaGreatDoorGp11
import Derived.Test.YtpdkdgmaofhlkaaGreatDoorGp15
/- slices.SortStableFunc of a row of things of two cells each: what is sorted, and of each key the same in the same order. Conditions as each names them. -/
namespace Go.Proofs.YtpdkdgmaofhlkaaGreatDoor
open Go.Shelf Go.RowKit Go.Lib Go.Sort
set_option linter.unusedVariables false
set_option linter.unusedSimpArgs false
end Go.Proofs.YtpdkdgmaofhlkaaGreatDoor
namespace Go.Proofs
open Go.Shelf Go.RowKit Go.Lib Go.Sort
shelf_lay_g SlLaysF0.n20 Slsf 20 at Tryz 126 as Tryz.insH
end Go.Proofs
namespace Go.Proofs.YtpdkdgmaofhlkaaGreatDoor
open Go.Shelf Go.RowKit Go.Lib Go.Sort

namespace SoH
section
variable {α : Type} {κ : Type} [DecidableEq κ]
/-- Stretches of bs things each rise. -/
def Bk (lt : α → α → Bool) (f : Nat → α) (bs n : Nat) : Prop := ∀ p, Srt lt f (p * bs) (min (p * bs + bs) n)
/-- The first q pairs of stretches are merged. -/
structure Hf (lt : α → α → Bool) (f : Nat → α) (bs n q : Nat) : Prop where
  l : ∀ p, p < q → Srt lt f (p * (2 * bs)) (p * (2 * bs) + 2 * bs)
  r : ∀ p, 2 * q ≤ p → Srt lt f (p * bs) (min (p * bs + bs) n)
variable {lt : α → α → Bool} {k : α → κ} {f f' : Nat → α} {bs n q : Nat}
theorem Hf.start (h : Bk lt f bs n) : Hf lt f bs n 0 := ⟨fun p hp => by omega, fun p _ => h p⟩
theorem two_q (q bs : Nat) : 2 * q * bs = q * (2 * bs) := by rw [Nat.mul_comm 2 q, Nat.mul_assoc]
theorem two_q1 (q bs : Nat) : (2 * q + 1) * bs = q * (2 * bs) + bs := by rw [Nat.add_mul, two_q, Nat.one_mul]
theorem Hf.one (h : Hf lt f bs n q) : Srt lt f (q * (2 * bs)) (min (q * (2 * bs) + bs) n) := by
  have := h.r (2 * q) (by omega)
  rwa [two_q] at this
theorem Hf.two (h : Hf lt f bs n q) : Srt lt f (q * (2 * bs) + bs) (min (q * (2 * bs) + 2 * bs) n) := by
  have := h.r (2 * q + 1) (by omega)
  rw [two_q1] at this
  rwa [show q * (2 * bs) + bs + bs = q * (2 * bs) + 2 * bs by omega] at this
theorem mul_gap {p q c : Nat} (h : p < q) : p * c + c ≤ q * c := by
  have := Nat.mul_le_mul_right c (show p + 1 ≤ q from h)
  rwa [Nat.add_mul, Nat.one_mul] at this
theorem Hf.step (h : Hf lt f bs n q) (hm : Mg lt k f f' (q * (2 * bs)) (q * (2 * bs) + 2 * bs)) : Hf lt f' bs n (q + 1) := by
  refine ⟨fun p hp => ?_, fun p hp => ?_⟩
  · by_cases hpq : p = q
    · subst hpq; exact hm.srt
    · have hg := mul_gap (c := 2 * bs) (show p < q by omega)
      intro x y h1 h2 h3
      rw [hm.out x (by omega), hm.out y (by omega)]
      exact h.l p (by omega) x y h1 h2 h3
  · have hg : q * (2 * bs) + 2 * bs ≤ p * bs := by
      have := Nat.mul_le_mul_right bs (show 2 * q + 2 ≤ p by omega)
      rw [Nat.add_mul, two_q] at this
      exact this
    intro x y h1 h2 h3
    rw [hm.out x (by omega), hm.out y (by omega)]
    exact h.r p (by omega) x y h1 h2 h3
theorem Hf.end2 (h : Hf lt f bs n q) (hA : q * (2 * bs) ≤ n) (hB : n < q * (2 * bs) + 2 * bs) (hm : Mg lt k f f' (q * (2 * bs)) n) : Bk lt f' (2 * bs) n := by
  intro p
  by_cases hpq : p < q
  · have hg := mul_gap (c := 2 * bs) hpq
    intro x y h1 h2 h3
    rw [hm.out x (by omega), hm.out y (by omega)]
    exact h.l p hpq x y h1 h2 (by omega)
  · by_cases hp2 : p = q
    · subst hp2; exact hm.srt.sub (Nat.le_refl _) (by omega)
    · have hg := mul_gap (c := 2 * bs) (show q < p by omega)
      intro x y h1 h2 h3
      omega
theorem Hf.end1 (h : Hf lt f bs n q) (hA : q * (2 * bs) ≤ n) (hB : n ≤ q * (2 * bs) + bs) : Bk lt f (2 * bs) n := by
  intro p
  by_cases hpq : p < q
  · exact (h.l p hpq).sub (Nat.le_refl _) (by omega)
  · by_cases hp2 : p = q
    · subst hp2; exact h.one.sub (Nat.le_refl _) (by omega)
    · have hg := mul_gap (c := 2 * bs) (show q < p by omega)
      intro x y h1 h2 h3
      omega
theorem Mg.ofBk (h : Bk lt f bs n) (hb : n ≤ bs) : Srt lt f 0 n := by
  have := h 0
  rw [Nat.zero_mul] at this
  exact this.sub (Nat.le_refl _) (by omega)
/-- Ahead of the merging: the first q stretches of c things rise. -/
def Pf (lt : α → α → Bool) (f : Nat → α) (c q : Nat) : Prop := ∀ p, p < q → Srt lt f (p * c) (p * c + c)
theorem Pf.step {c : Nat} (h : Pf lt f c q) (hm : Mg lt k f f' (q * c) (q * c + c)) : Pf lt f' c (q + 1) := by
  intro p hp
  by_cases hpq : p = q
  · subst hpq; exact hm.srt
  · have hg := mul_gap (c := c) (show p < q by omega)
    intro x y h1 h2 h3
    rw [hm.out x (by omega), hm.out y (by omega)]
    exact h p (by omega) x y h1 h2 h3
theorem Pf.end {c : Nat} (h : Pf lt f c q) (hA : q * c ≤ n) (hB : n < q * c + c) (hm : Mg lt k f f' (q * c) n) : Bk lt f' c n := by
  intro p
  by_cases hpq : p < q
  · have hg := mul_gap (c := c) hpq
    intro x y h1 h2 h3
    rw [hm.out x (by omega), hm.out y (by omega)]
    exact h p hpq x y h1 h2 (by omega)
  · by_cases hp2 : p = q
    · subst hp2; exact hm.srt.sub (Nat.le_refl _) (by omega)
    · have hg := mul_gap (c := c) (show q < p by omega)
      intro x y h1 h2 h3
      omega
theorem Mg.whole {a b n : Nat} (hm : Mg lt k f f' a b) (ha : a ≤ b) (hb : b ≤ n) : St k f f' 0 n := by
  have := hm.st.wide ha (Nat.zero_le a) hb hm.out
  simpa using this
end
variable {α : Type} [Inhabited α] {κ : Type} [DecidableEq κ]
/-- The merge, whole. -/
theorem symM_any (enc : α → List Value) (cf : α → α → Int) (ky : α → κ) (hO : KO (ltOf cf) ky) (g : Nat) (cb : Array Value) (blk off cap : Nat) (d0 : Array α) (w0 : World)
    (eg : ∀ args w, (callFunc g args).run Tryz.prog w = .ok (.enter g args) w) (hcmp : CmpLays Tryz.prog g cb enc 2 cf blk off d0.size w0) (R : RowK enc 2 w0 blk off d0) (hsz : d0.size < 1099511627776) :
    ∀ (N a m b : Nat) (d : Array α) (w : World), b - a ≤ N → d.size = d0.size → SWK enc 2 w0 blk off d w → a < m → m < b → b ≤ d0.size → Srt (ltOf cf) (fA d) a m → Srt (ltOf cf) (fA d) m b →
    Calls Tryz.prog 127 #[.slice (some ⟨blk, off, none⟩) d0.size cap, .int .i64 a, .int .i64 m, .int .i64 b, .func (.func g) #[] cb] w fun e w' => e = .returned (.tuple #[]) ∧ ∃ d' : Array α, d'.size = d0.size ∧ Mg (ltOf cf) ky (fA d) (fA d') a b ∧ SWK enc 2 w0 blk off d' w' := by
  intro N
  induction N with
  | zero => intro a m b d w h1 h2 h3 h4 h5; omega
  | succ N ih =>
    intro a m b d w hN hd hS ham hmb hb hl hr
    by_cases h1 : m = a + 1
    · subst h1
      have := sym1_p ty 2 isAgg_ sizeOf_ enc cf ky hO g cb blk off cap a b d0 d w0 w eg hcmp R hd.symm hS hmb (by omega) (by omega) hr
      rw [hd] at this
      rw [show (((a + 1 : Nat) : Int)) = (a : Int) + 1 by omega]
      exact this
    · by_cases h2 : b = m + 1
      · subst h2
        have := sym2_p ty 2 isAgg_ sizeOf_ enc cf ky hO g cb blk off cap a m d0 d w0 w eg hcmp R hd.symm hS (by omega) (by omega) (by omega) hl
        rw [hd] at this
        rw [show (((m + 1 : Nat) : Int)) = (m : Int) + 1 by omega]
        exact this
      · have := sym3_p ty 2 isAgg_ sizeOf_ enc cf ky hO g cb blk off cap a m b d0 d w0 w eg hcmp R hd.symm hS (by omega) (by omega) (by omega) (by omega) hl hr
          (fun s t u dk W e1 e2 e3 e4 e5 => by
            have := rota_any enc g cb blk off cap s t u d0 dk w0 W R (by omega) e2 e3 e4 (by omega) (by omega)
            rw [e1] at this
            exact this)
          (fun s t u dk W e1 e2 e3 e4 e5 e6 e7 e8 => by
            have := ih s t u dk W (by omega) (by omega) e2 e3 e4 (by omega) e7 e8
            rw [hd]
            exact this)
        rw [hd] at this
        exact this
theorem insS_any (enc : α → List Value) (cf : α → α → Int) (ky : α → κ) (hO : KO (ltOf cf) ky) (g : Nat) (cb : Array Value) (blk off cap : Nat) (d0 : Array α) (w0 : World)
    (eg : ∀ args w, (callFunc g args).run Tryz.prog w = .ok (.enter g args) w) (hcmp : CmpLays Tryz.prog g cb enc 2 cf blk off d0.size w0) (R : RowK enc 2 w0 blk off d0) (hsz : d0.size < 1099511627776)
    (a b : Nat) (d : Array α) (w : World) (hd : d.size = d0.size) (hS : SWK enc 2 w0 blk off d w) (hab : a ≤ b) (hb : b ≤ d0.size) :
    Calls Tryz.prog 126 #[.slice (some ⟨blk, off, none⟩) d0.size cap, .int .i64 a, .int .i64 b, .func (.func g) #[] cb] w fun e w' => e = .returned (.tuple #[]) ∧ ∃ d' : Array α, d'.size = d0.size ∧ Mg (ltOf cf) ky (fA d) (fA d') a b ∧ SWK enc 2 w0 blk off d' w' := by
  have := AnyQ.insertionSortCmpFunc_w Tryz.insH 2 isAgg_ sizeOf_ enc cf g cb blk off cap a b d0 d w0 w eg hcmp R hd.symm hS hO.swo hab (by omega) (by omega)
  change Calls Tryz.prog 126 _ _ _ at this
  rw [hd] at this
  refine this.mono ?_
  rintro e w' ⟨rfl, h⟩
  obtain ⟨hm, hz⟩ := ins_mg hO d a b hab (by omega)
  exact ⟨rfl, _, hz.trans hd, hm, h⟩
set_option maxHeartbeats 8000000 in
set_option maxRecDepth 1000000 in
theorem stable_any (enc : α → List Value) (cf : α → α → Int) (ky : α → κ) (hO : KO (ltOf cf) ky) (g : Nat) (cb : Array Value) (blk off cap : Nat) (d0 : Array α) (w0 : World)
    (eg : ∀ args w, (callFunc g args).run Tryz.prog w = .ok (.enter g args) w) (hcmp : CmpLays Tryz.prog g cb enc 2 cf blk off d0.size w0) (R : RowK enc 2 w0 blk off d0) (hsz : d0.size < 1099511627776) :
    Calls Tryz.prog 121 #[.slice (some ⟨blk, off, none⟩) d0.size cap, .int .i64 d0.size, .func (.func g) #[] cb] w0 fun e w' => e = .returned (.tuple #[]) ∧ ∃ d' : Array α, d'.size = d0.size ∧ Srt (ltOf cf) (fA d') 0 d0.size ∧ St ky (fA d0) (fA d') 0 d0.size ∧ SWK enc 2 w0 blk off d' w' := by
  have HI : Aside _ := insS_any enc cf ky hO g cb blk off cap d0 w0 eg hcmp R hsz
  have HM : Aside _ := symM_any enc cf ky hO g cb blk off cap d0 w0 eg hcmp R hsz
  have S0 : Aside (SWK enc 2 w0 blk off d0 w0) := SWK.start R.hH
  clear hcmp
  obtain ⟨n, hn⟩ : ∃ n, n = d0.size := ⟨_, rfl⟩
  rw [← hn] at hsz HI HM ⊢
  have HN : Hid (n = d0.size) := hn
  clear hn R
  go_enter Tryz.func121, Tryz.ntmps121
  go_wp2
  go_loopg [7, 8] n (fun kx s7 s8 wr => ∃ (q a : Nat) (dk : Array α), s7 = .int .i64 a ∧ s8 = .int .i64 ((a : Int) + 20) ∧ a ≤ n ∧ n - a ≤ kx ∧ Hid (a = q * 20) ∧ Hid (dk.size = n) ∧ Aside (SWK enc 2 w0 blk off dk wr) ∧ Aside (Pf (ltOf cf) (fA dk) 20 q) ∧ Aside (St ky (fA d0) (fA dk) 0 n))
  case atStart => exact ⟨0, 0, d0, by simp, by simp, by omega, by omega, rfl, HN.out.symm, S0, fun p hp => by omega, St.refl _ _ _ _⟩
  case round =>
    clear S0
    obtain ⟨q, a, dk, rfl, rfl, han, hkx, HA, HD, S1, P1, T1⟩ := hrel
    by_cases hle : a + 20 ≤ n
    · have hlez : (a : Int) + 20 ≤ (n : Int) := by omega
      go_wp2_with fail
      rw [show (a : Int) + 20 = ((a + 20 : Nat) : Int) by omega]
      refine (HI.out a (a + 20) dk _ HD.out S1.out (by omega) (by omega)).mono ?_
      rintro e w2 ⟨rfl, d1, hd1, hM, hS⟩
      have P2 : Aside (Pf (ltOf cf) (fA d1) 20 (q + 1)) := P1.out.step (by have h := HA.out; rw [← h]; exact hM)
      have T2 : Aside (St ky (fA d0) (fA d1) 0 n) := T1.out.trans (Mg.whole hM (by omega) hle)
      have S2 : Aside (SWK enc 2 w0 blk off d1 w2) := hS
      have HA2 : Hid (a + 20 = (q + 1) * 20) := by have h := HA.out; show _ = _; omega
      have HD2 : Hid (d1.size = n) := hd1
      clear hM hS S1 P1 T1 HD hd1 HA
      go_wp2
      go_roundg (n - (a + 20))
      case measure => omega
      case rel => exact ⟨q + 1, a + 20, d1, by simp, by simp, by omega, by omega, HA2, HD2, S2, P2, T2⟩
    · have hlez : ¬ (a : Int) + 20 ≤ (n : Int) := by omega
      go_wp2_with fail
      refine (HI.out a n dk _ HD.out S1.out han (Nat.le_refl _)).mono ?_
      rintro e w2 ⟨rfl, d1, hd1, hM, hS⟩
      have B2 : Aside (Bk (ltOf cf) (fA d1) 20 n) := P1.out.end (n := n) (by have h := HA.out; omega) (by have h := HA.out; omega) (by have h := HA.out; rw [← h]; exact hM)
      have T2 : Aside (St ky (fA d0) (fA d1) 0 n) := T1.out.trans (Mg.whole hM han (Nat.le_refl _))
      have S2 : Aside (SWK enc 2 w0 blk off d1 w2) := hS
      have HD2 : Hid (d1.size = n) := hd1
      clear hM hS S1 P1 T1 HD hd1 HA HI hlez
      go_wp2
      go_loopg [6] n (fun kx s6 wr => ∃ (bs : Nat) (dk : Array α), s6 = .int .i64 bs ∧ 0 < bs ∧ bs < 2199023255552 ∧ n - bs ≤ kx ∧ Hid (dk.size = n) ∧ Aside (SWK enc 2 w0 blk off dk wr) ∧ Aside (Bk (ltOf cf) (fA dk) bs n) ∧ Aside (St ky (fA d0) (fA dk) 0 n))
      case atStart => exact ⟨20, d1, by simp, by omega, by omega, by omega, HD2, S2, B2, T2⟩
      case round =>
        clear S2 B2 T2 HD2
        obtain ⟨bs, dk, rfl, hb0, hb1, hkx, HD, S1, B1, T1⟩ := hrel
        by_cases hlt : bs < n
        · have hltz : (bs : Int) < (n : Int) := by omega
          go_wp2
          go_loopg [7, 8] n (fun kx s7 s8 wr => ∃ (q a : Nat) (dk : Array α), s7 = .int .i64 a ∧ s8 = .int .i64 ((a : Int) + 2 * (bs : Int)) ∧ a ≤ n ∧ n - a ≤ kx ∧ Hid (a = q * (2 * bs)) ∧ Hid (dk.size = n) ∧ Aside (SWK enc 2 w0 blk off dk wr) ∧ Aside (Hf (ltOf cf) (fA dk) bs n q) ∧ Aside (St ky (fA d0) (fA dk) 0 n))
          case atStart => exact ⟨0, 0, dk, by simp, by simp, by omega, by omega, by show _ = _; simp, HD, S1, Hf.start B1.out, T1⟩
          case round =>
            clear S1 B1 T1 HD dk
            obtain ⟨q, a, dk, rfl, rfl, han, hkx2, HA, HD, S1, P1, T1⟩ := hrel
            by_cases hle : a + 2 * bs ≤ n
            · have hlez : (a : Int) + 2 * (bs : Int) ≤ (n : Int) := by omega
              have h1 : Aside (Srt (ltOf cf) (fA dk) a (a + bs) ∧ Srt (ltOf cf) (fA dk) (a + bs) (a + 2 * bs)) := by
                have h := HA.out
                have o1 := P1.out.one
                have o2 := P1.out.two
                rw [← h] at o1 o2
                exact ⟨o1.sub (Nat.le_refl _) (by omega), o2.sub (Nat.le_refl _) (by omega)⟩
              go_wp2_with fail
              rw [show (a : Int) + 2 * (bs : Int) = ((a + 2 * bs : Nat) : Int) by omega, show (a : Int) + (bs : Int) = ((a + bs : Nat) : Int) by omega]
              refine (HM.out (2 * bs) a (a + bs) (a + 2 * bs) dk _ (by omega) HD.out S1.out (by omega) (by omega) hle h1.out.1 h1.out.2).mono ?_
              rintro e w3 ⟨rfl, d2, hd2, hM, hS⟩
              have P2 : Aside (Hf (ltOf cf) (fA d2) bs n (q + 1)) := P1.out.step (k := ky) (by have h := HA.out; rw [← h]; exact hM)
              have T2 : Aside (St ky (fA d0) (fA d2) 0 n) := T1.out.trans (Mg.whole hM (by omega) hle)
              have S2 : Aside (SWK enc 2 w0 blk off d2 w3) := hS
              have HA2 : Hid (a + 2 * bs = (q + 1) * (2 * bs)) := by have h := HA.out; show _ = _; rw [Nat.add_mul, Nat.one_mul, ← h]
              have HD2 : Hid (d2.size = n) := hd2
              clear hM hS S1 P1 T1 HD hd2 HA h1
              go_wp2
              go_roundg (n - (a + 2 * bs))
              case measure => omega
              case rel => exact ⟨q + 1, a + 2 * bs, d2, by first | (congr 1; omega) | simp, by first | (congr 1; omega) | simp, by omega, by omega, HA2, HD2, S2, P2, T2⟩
            · have hlez : ¬ (a : Int) + 2 * (bs : Int) ≤ (n : Int) := by omega
              by_cases hmn : a + bs < n
              · have hmz : (a : Int) + (bs : Int) < (n : Int) := by omega
                have h1 : Aside (Srt (ltOf cf) (fA dk) a (a + bs) ∧ Srt (ltOf cf) (fA dk) (a + bs) n) := by
                  have h := HA.out
                  have o1 := P1.out.one
                  have o2 := P1.out.two
                  rw [← h] at o1 o2
                  exact ⟨o1.sub (Nat.le_refl _) (by omega), o2.sub (Nat.le_refl _) (by omega)⟩
                go_wp2_with fail
                rw [show (a : Int) + (bs : Int) = ((a + bs : Nat) : Int) by omega]
                refine (HM.out (n - a) a (a + bs) n dk _ (by omega) HD.out S1.out (by omega) hmn (Nat.le_refl _) h1.out.1 h1.out.2).mono ?_
                rintro e w3 ⟨rfl, d2, hd2, hM, hS⟩
                have B2 : Aside (Bk (ltOf cf) (fA d2) (2 * bs) n) := P1.out.end2 (k := ky) (by have h := HA.out; omega) (by have h := HA.out; omega) (by have h := HA.out; rw [← h]; exact hM)
                have T2 : Aside (St ky (fA d0) (fA d2) 0 n) := T1.out.trans (Mg.whole hM (by omega) (Nat.le_refl _))
                have S2 : Aside (SWK enc 2 w0 blk off d2 w3) := hS
                have HD2 : Hid (d2.size = n) := hd2
                clear hM hS S1 P1 T1 HD hd2 HA h1
                go_wp2
                go_roundg (n - 2 * bs)
                case measure => omega
                case rel => exact ⟨2 * bs, d2, by first | (congr 1; omega) | simp, by omega, by omega, by omega, HD2, S2, B2, T2⟩
              · have hmz : ¬ (a : Int) + (bs : Int) < (n : Int) := by omega
                have B2 : Aside (Bk (ltOf cf) (fA dk) (2 * bs) n) := P1.out.end1 (by have h := HA.out; omega) (by have h := HA.out; omega)
                clear P1 HA
                go_wp2
                go_roundg (n - 2 * bs)
                case measure => omega
                case rel => exact ⟨2 * bs, dk, by first | (congr 1; omega) | simp, by omega, by omega, by omega, HD, S1, B2, T1⟩
        · have hltz : ¬ (bs : Int) < (n : Int) := by omega
          go_wp2
          go_end0
          exact ⟨rfl, dk, HD.out, Mg.ofBk B1.out (by omega), T1.out, S1.out⟩
set_option maxHeartbeats 1000000 in
theorem sortSt_any (enc : α → List Value) (cf : α → α → Int) (ky : α → κ) (hO : KO (ltOf cf) ky) (g : Nat) (cb : Array Value) (blk off cap : Nat) (d0 : Array α) (w0 : World)
    (eg : ∀ args w, (callFunc g args).run Tryz.prog w = .ok (.enter g args) w) (hcmp : CmpLays Tryz.prog g cb enc 2 cf blk off d0.size w0) (R : RowK enc 2 w0 blk off d0) (hsz : d0.size < 1099511627776) :
    Calls Tryz.prog 113 #[.slice (some ⟨blk, off, none⟩) d0.size cap, .func (.func g) #[] cb] w0 fun e w' => e = .returned (.tuple #[]) ∧ ∃ d' : Array α, d'.size = d0.size ∧ Srt (ltOf cf) (fA d') 0 d0.size ∧ St ky (fA d0) (fA d') 0 d0.size ∧ SWK enc 2 w0 blk off d' w' := by
  have H : Hid (Calls _ _ _ _ _) := stable_any enc cf ky hO g cb blk off cap d0 w0 eg hcmp R hsz
  clear hcmp R
  go_enter Tryz.func113, Tryz.ntmps113
  go_wp2_with fail
  refine H.out.mono ?_
  rintro e w1 ⟨rfl, h⟩
  go_wp2
  go_end0
  exact ⟨rfl, h⟩
/-- Of nothing. -/
theorem ins_none (p : Option Addr) (cap : Nat) (fv : Value) (w : World) : Calls Tryz.prog 126 #[.slice p 0 cap, .int .i64 0, .int .i64 0, fv] w fun e w' => e = .returned (.tuple #[]) ∧ w = w' := by
  go_enter Tryz.func126, Tryz.ntmps126
  go_wp2
  refine wp_loop_rounds 1 ?_
  rw [rounds_succ]
  go_wp2
  go_end0
  exact ⟨rfl, rfl⟩
theorem stable_none (p : Option Addr) (cap : Nat) (fv : Value) (w : World) : Calls Tryz.prog 121 #[.slice p 0 cap, .int .i64 0, fv] w fun e w' => e = .returned (.tuple #[]) ∧ w = w' := by
  have H : Hid (Calls _ _ _ _ _) := ins_none p cap fv w
  go_enter Tryz.func121, Tryz.ntmps121
  go_wp2
  refine wp_loop_rounds 1 ?_
  rw [rounds_succ]
  go_wp2_with fail
  refine H.out.mono ?_
  rintro e w1 ⟨rfl, rfl⟩
  go_wp2
  refine wp_loop_rounds 1 ?_
  rw [rounds_succ]
  go_wp2
  go_end0
  exact ⟨rfl, rfl⟩
theorem sortSt_none (p : Option Addr) (cap : Nat) (fv : Value) (w : World) : Calls Tryz.prog 113 #[.slice p 0 cap, fv] w fun e w' => e = .returned (.tuple #[]) ∧ w = w' := by
  have H : Hid (Calls _ _ _ _ _) := stable_none p cap fv w
  go_enter Tryz.func113, Tryz.ntmps113
  go_wp2_with fail
  refine H.out.mono ?_
  rintro e w1 ⟨rfl, rfl⟩
  go_wp2
  go_end0
  exact ⟨rfl, rfl⟩
end SoH
end Go.Proofs.YtpdkdgmaofhlkaaGreatDoor
/- What a Collect takes of a reply; lists of nothing put together; the statements' own helper lives. Conditions as each names them. -/
namespace Go.Proofs.YtpdkdgmaofhlkaaGreatDoor
open Go.ChangeShapes Go.WideShapes Go.ChangeAt Go.RowKit Go.Lib
set_option linter.unusedVariables false
set_option linter.unusedSimpArgs false

set_option maxHeartbeats 800000 in
set_option maxRecDepth 100000 in
theorem qadd3 {w : World} {t : Nat} {T : Tk} (r : Rp) (h : TkM w t T) : Calls Tryz.prog 21 #[.pointer (some ⟨t, 21, none⟩), .int .u8 3, .agg r.a] w fun e w' => (∃ v, e = .returned v) ∧ TkM w' t { T with ct := wrap64 (T.ct + r.ct) } ∧ Fr [t] w w' := by
  have mixed : Tryz.prog.follows .mixedOrders = true := by kernel_rfl
  have hF := Fr.alloc [] w (.cells r.a 53)
  have hk := h.keep hF (by simp)
  have c23 := hk.c23
  have z23 := hk.fz 23
  have hlt := h.lt
  have hne : w.heap.size ≠ t := by omega
  have hne' : t ≠ w.heap.size := by omega
  have hb : (w.alloc (.cells r.a 53)).heap[w.heap.size]? = some (.cells r.a 53 (0, 0)) := heap_alloc_new w _
  have k4 : (w.alloc (.cells r.a 53)).cell? ⟨w.heap.size, 4, none⟩ = some (.int .i64 r.ct) := by rw [cell_of_row _ _ _ _ _ _ hb]; rfl
  have HK : Hid (TkM w t T) := h
  clear h hk hb hF
  obtain ⟨a, b, c, d, e, f, g, i, j⟩ := r
  simp only [Rp.a] at c23 z23 k4 HK ⊢
  obtain ⟨ct, hct⟩ : ∃ c, c = T.ct := ⟨_, rfl⟩
  rw [← hct] at c23 ⊢
  clear hct
  obtain ⟨b0, hb0⟩ : ∃ b, b = w.heap.size := ⟨_, rfl⟩
  have c23' : (w.alloc (.cells #[.int .i64 a, .bool b, .slice c d e, .slice f g i, .int .i64 j] 53)).drew.cell? ⟨t, 23, none⟩ = some (.int .i64 ct) := c23
  have k4' : (w.alloc (.cells #[.int .i64 a, .bool b, .slice c d e, .slice f g i, .int .i64 j] 53)).drew.cell? ⟨w.heap.size, 4, none⟩ = some (.int .i64 j) := k4
  have z23' : (w.alloc (.cells #[.int .i64 a, .bool b, .slice c d e, .slice f g i, .int .i64 j] 53)).drew.frozen? ⟨t, 23, none⟩ = false := z23
  go_enter Tryz.func21, Tryz.ntmps21
  go_wp2_with fail
  go_region
  all_goals
    go_wp2
    go_end0
    refine ⟨⟨_, rfl⟩, ?_, ((Fr.set _ _ _ (by simp)).then (Fr.alloc [t] _ _)).then (Fr.drew _ _)⟩
    exact (Fr.alloc [] _ _).keep (row_put17 (j := 23) _ HK.out) (by simp)
theorem concE_none (w : World) : Calls Tryz.prog 108 #[.slice none 0 0] w fun e w' => e = .returned (.slice none 0 0) ∧ w = w' := by
  have HG : Hid (Calls Tryz.prog 117 #[.slice none 0 0, .int .i64 0] w fun e w' => e = .returned (.slice none 0 0) ∧ w = w') := by
    go_enter Tryz.func117, Tryz.ntmps117
    go_wp2
    go_ret
    exact ⟨rfl, rfl⟩
  go_enter Tryz.func108, Tryz.ntmps108
  go_wp2
  refine wp_loop_rounds 1 ?_
  rw [rounds_succ]
  go_wp2_with fail
  refine Calls.mono HG.out ?_
  rintro e w1 ⟨rfl, rfl⟩
  go_wp2
  refine wp_loop_rounds 1 ?_
  rw [rounds_succ]
  go_wp2
  go_ret
  exact ⟨rfl, rfl⟩
theorem concH_none (w : World) : Calls Tryz.prog 112 #[.slice none 0 0] w fun e w' => e = .returned (.slice none 0 0) ∧ w = w' := by
  have HG : Hid (Calls Tryz.prog 120 #[.slice none 0 0, .int .i64 0] w fun e w' => e = .returned (.slice none 0 0) ∧ w = w') := by
    go_enter Tryz.func120, Tryz.ntmps120
    go_wp2
    go_ret
    exact ⟨rfl, rfl⟩
  go_enter Tryz.func112, Tryz.ntmps112
  go_wp2
  refine wp_loop_rounds 1 ?_
  rw [rounds_succ]
  go_wp2_with fail
  refine Calls.mono HG.out ?_
  rintro e w1 ⟨rfl, rfl⟩
  go_wp2
  refine wp_loop_rounds 1 ?_
  rw [rounds_succ]
  go_wp2
  go_ret
  exact ⟨rfl, rfl⟩
theorem togE_none (w : World) : Calls Tryz.prog 72 #[.func (Fn.func 73) #[] #[], .slice none 0 0] w fun e w' => e = .returned (.slice none 0 0) ∧ Fr [] w w' := by
  go_enter Tryz.func72, Tryz.ntmps72
  go_wp2_with fail
  refine (concE_none _).mono ?_
  rintro e w1 ⟨rfl, rfl⟩
  go_wp2_with fail
  refine (SoE.sortSt_none _ _ _ _).mono ?_
  rintro e w1 ⟨rfl, rfl⟩
  go_wp2
  go_ret
  exact ⟨rfl, Fr.alloc _ _ _⟩
theorem togH_none (w : World) : Calls Tryz.prog 74 #[.func (Fn.func 75) #[] #[], .slice none 0 0] w fun e w' => e = .returned (.slice none 0 0) ∧ Fr [] w w' := by
  go_enter Tryz.func74, Tryz.ntmps74
  go_wp2_with fail
  refine (concH_none _).mono ?_
  rintro e w1 ⟨rfl, rfl⟩
  go_wp2_with fail
  refine (SoH.sortSt_none _ _ _ _).mono ?_
  rintro e w1 ⟨rfl, rfl⟩
  go_wp2
  go_ret
  exact ⟨rfl, Fr.alloc _ _ _⟩
theorem Tryz.undHds17 : Tryz.prog.underlying 51 = some (.slice 97) := by kernel_rfl
theorem cloneH_none (w : World) : Calls Tryz.prog 103 #[.slice none 0 0] w fun e w' => e = .returned (.slice none 0 0) ∧ w = w' := by
  have q22 : ∀ (w : World) (a : Option Addr) (n c n' c' : Nat), (binOp .eql 51 (.slice a n c) (.slice none n' c')).run Tryz.prog w = .ok (.bool a.isNone) w := fun w a n c n' c' => Lib.run_eql_slice_nil w _ _ a n c n' c' Tryz.undHds17
  go_enter Tryz.func103, Tryz.ntmps103
  go_wp2
  go_ret
  exact ⟨rfl, rfl⟩
theorem copied_none (w : World) : Calls Tryz.prog 69 #[.slice none 0 0] w fun e w' => e = .returned (.slice none 0 0) ∧ w = w' := by
  go_enter Tryz.func69, Tryz.ntmps69
  go_wp2_with fail
  refine (cloneH_none _).mono ?_
  rintro e w1 ⟨rfl, rfl⟩
  go_wp2
  refine wp_loop_rounds 1 ?_
  rw [rounds_succ]
  go_wp2
  go_ret
  exact ⟨rfl, rfl⟩
theorem qallE_none {w : World} {t : Nat} {T : Tk} (h : TkM w t T) (he : T.ev = .slice none 0 0) : Calls Tryz.prog 27 #[.pointer (some ⟨t, 21, none⟩)] w fun e w' => ∃ eo ec, e = .returned (.slice eo 0 ec) ∧ (eo = none ∧ ec = 0) ∧ Fr [] w w' := by
  have c21 := h.c21
  rw [he] at c21
  clear h he
  go_enter Tryz.func27, Tryz.ntmps27
  go_wp2_with fail
  refine (togE_none _).mono ?_
  rintro e w1 ⟨rfl, hf⟩
  have HF : Hid (Fr [] w w1) := hf
  clear hf
  go_wp2
  go_ret
  exact ⟨none, 0, rfl, ⟨rfl, rfl⟩, HF.out⟩
theorem qallH_none {w : World} {t : Nat} {T : Tk} (h : TkM w t T) (he : T.hv = .slice none 0 0) : Calls Tryz.prog 28 #[.pointer (some ⟨t, 21, none⟩)] w fun e w' => ∃ v, e = .returned v ∧ v = .slice none 0 0 ∧ Fr [] w w' := by
  have c22 := h.c22
  rw [he] at c22
  clear h he
  go_enter Tryz.func28, Tryz.ntmps28
  go_wp2_with fail
  refine (togH_none _).mono ?_
  rintro e w1 ⟨rfl, hf⟩
  have HF : Hid (Fr [] w w1) := hf
  clear hf
  go_wp2_with fail
  refine (copied_none _).mono ?_
  rintro e w2 ⟨rfl, rfl⟩
  go_wp2
  go_ret
  exact ⟨_, rfl, rfl, HF.out⟩
end Go.Proofs.YtpdkdgmaofhlkaaGreatDoor
