/- Texts of this claim laid together, one behind the other: contracts and plain lemmas; conditions as each names them. -/
import Derived.Test.YtpdkdgmaofhlkaaGreatDoorGp2
import Derived.Shelf.SlSortCmp.KitK
import Derived.Sort.WalkB2
import Derived.Sort.WalkB12
import Derived.Deep.LoopGhost
/- slices' exchange of two stretches of a row of things of two cells each (swapRangeCmpFunc, rotateCmpFunc), for what the program sorts stably. Conditions as each names them. -/
namespace Go.Proofs.YtpdkdgmaofhlkaaGreatDoor
open Go.Shelf Go.RowKit Go.Lib Go.Sort
set_option linter.unusedVariables false
set_option linter.unusedSimpArgs false

namespace SoH
/-- What a program must bear: the types that the sort's bodies name, and the bodies. -/
structure Ty (P : Program) : Prop where
  mixed : P.follows .mixedOrders = true
  t0 : P.underlying 0 = some (.tuple #[])
  a0 : ∀ w, (isAgg 0).run P w = .ok false w
  z0 : ∀ w, (Go.sizeOf 0).run P w = .ok 1 w
  v0 : ∀ w, (zeroValue 0).run P w = .ok (.tuple #[]) w
  t3 : P.underlying 3 = some (.int .i64)
  a3 : ∀ w, (isAgg 3).run P w = .ok false w
  z3 : ∀ w, (Go.sizeOf 3).run P w = .ok 1 w
  v3 : ∀ w, (zeroValue 3).run P w = .ok (.int .i64 0) w
  t4 : P.underlying 4 = some .bool
  a4 : ∀ w, (isAgg 4).run P w = .ok false w
  z4 : ∀ w, (Go.sizeOf 4).run P w = .ok 1 w
  v4 : ∀ w, (zeroValue 4).run P w = .ok (.bool false) w
  t22 : P.underlying 51 = some (.slice 97)
  a22 : ∀ w, (isAgg 51).run P w = .ok false w
  z22 : ∀ w, (Go.sizeOf 51).run P w = .ok 1 w
  v22 : ∀ w, (zeroValue 51).run P w = .ok (.slice none 0 0) w
  t25 : P.underlying 178 = some (.func #[97, 97] #[3] false)
  a25 : ∀ w, (isAgg 178).run P w = .ok false w
  z25 : ∀ w, (Go.sizeOf 178).run P w = .ok 1 w
  v25 : ∀ w, (zeroValue 178).run P w = .ok .nilFunc w
  t40 : P.underlying 189 = some (.int .u64)
  a40 : ∀ w, (isAgg 189).run P w = .ok false w
  z40 : ∀ w, (Go.sizeOf 189).run P w = .ok 1 w
  v40 : ∀ w, (zeroValue 189).run P w = .ok (.int .u64 0) w
  fsw : P.funcs[133]? = some Tryz.f133
  fro : P.funcs[130]? = some Tryz.f130
  fsy : P.funcs[127]? = some Tryz.f127
theorem ty : Ty Tryz.prog where
  mixed := by kernel_rfl
  t0 := by kernel_rfl
  a0 w := by kernel_rfl
  z0 w := by kernel_rfl
  v0 w := by kernel_rfl
  t3 := by kernel_rfl
  a3 w := by kernel_rfl
  z3 w := by kernel_rfl
  v3 w := by kernel_rfl
  t4 := by kernel_rfl
  a4 w := by kernel_rfl
  z4 w := by kernel_rfl
  v4 w := by kernel_rfl
  t22 := by kernel_rfl
  a22 w := by kernel_rfl
  z22 w := by kernel_rfl
  v22 w := by kernel_rfl
  t25 := by kernel_rfl
  a25 w := by kernel_rfl
  z25 w := by kernel_rfl
  v25 w := by kernel_rfl
  t40 := by kernel_rfl
  a40 w := by kernel_rfl
  z40 w := by kernel_rfl
  v40 w := by kernel_rfl
  fsw := Tryz.func133
  fro := Tryz.func130
  fsy := Tryz.func127
theorem isAgg_ (w : World) : (isAgg 97).run Tryz.prog w = .ok true w := by kernel_rfl
theorem sizeOf_ (w : World) : (Go.sizeOf 97).run Tryz.prog w = .ok 2 w := by kernel_rfl
variable {α : Type} [Inhabited α]
/-- The stretches of n things from a and from b on, exchanged. -/
def swF (a b n : Nat) (f : Nat → α) : Nat → α := fun x => if a ≤ x ∧ x < a + n then f (x - a + b) else if b ≤ x ∧ x < b + n then f (x - b + a) else f x
theorem swF_step {a b i : Nat} (hab : a + (i + 1) ≤ b) (d : Array α) (hb : b + i < d.size) (f : Nat → α) (h : fA d = swF a b i f) : fA (swp d (a + i) (b + i)) = swF a b (i + 1) f := by
  funext x
  rw [fA_swp d (a + i) (b + i) (by omega) hb]
  have e : ∀ y, d[y]! = swF a b i f y := fun y => congrFun h y
  rw [e, e, e]
  unfold swF
  by_cases h1 : x = b + i
  · subst h1
    rw [if_pos rfl, if_neg (by omega), if_neg (by omega), if_neg (by omega), if_pos (by omega)]
    congr 1
    omega
  · rw [if_neg h1]
    by_cases h2 : x = a + i
    · subst h2
      rw [if_pos rfl, if_neg (by omega), if_neg (by omega), if_pos (by omega)]
      congr 1
      omega
    · rw [if_neg h2]
      by_cases h3 : a ≤ x ∧ x < a + i
      · rw [if_pos h3, if_pos (by omega)]
      · rw [if_neg h3]
        by_cases h4 : b ≤ x ∧ x < b + i
        · rw [if_pos h4, if_neg (by omega), if_pos (by omega)]
        · rw [if_neg h4, if_neg (by omega), if_neg (by omega)]
omit [Inhabited α] in
theorem swF_zero (a b : Nat) (f : Nat → α) : swF a b 0 f = f := by
  funext x
  unfold swF
  rw [if_neg (by omega), if_neg (by omega)]
set_option maxHeartbeats 4000000 in
set_option maxRecDepth 1000000 in
theorem swapR_p {P : Program} (L : Ty P) (k : Nat) (aE : ∀ w, (isAgg 97).run P w = .ok true w) (zE : ∀ w, (Go.sizeOf 97).run P w = .ok k w) (enc : α → List Value) (g : Nat) (cb : Array Value) (blk off cap a b n : Nat) (d0 d : Array α) (w0 w : World)
    (R : RowK enc k w0 blk off d0) (hs : d0.size = d.size) (S : SWK enc k w0 blk off d w) (hab : a + n ≤ b) (hbn : b + n ≤ d.size) (hsz : d.size < 4611686018427387904) :
    Calls P 133 #[.slice (some ⟨blk, off, none⟩) d.size cap, .int .i64 a, .int .i64 b, .int .i64 n, .func (.func g) #[] cb] w fun e w' => e = .returned (.tuple #[]) ∧ ∃ d' : Array α, d'.size = d.size ∧ fA d' = swF a b n (fA d) ∧ SWK enc k w0 blk off d' w' := by
  have mixed := L.mixed; have t0 := L.t0; have a0 := L.a0; have z0 := L.z0; have v0 := L.v0; have t3 := L.t3; have a3 := L.a3; have z3 := L.z3; have v3 := L.v3; have t4 := L.t4; have a4 := L.a4; have z4 := L.z4; have v4 := L.v4; have t22 := L.t22; have a22 := L.a22; have z22 := L.z22; have v22 := L.v22; have t25 := L.t25; have a25 := L.a25; have z25 := L.z25; have v25 := L.v25
  have S0 : Aside (SWK enc k w0 blk off d w) := S
  clear S
  go_enter L.fsw, Tryz.ntmps133
  go_wp2
  go_loopg [10] n (fun kx s10 wr => ∃ (i : Nat) (dk : Array α), s10 = .int .i64 i ∧ i ≤ n ∧ n - i ≤ kx ∧ dk.size = d.size ∧ Aside (SWK enc k w0 blk off dk wr) ∧ Hid (fA dk = swF a b i (fA d)))
  case atStart => exact ⟨0, d, rfl, by omega, by omega, rfl, S0, (swF_zero a b _).symm⟩
  case round =>
    clear S0
    obtain ⟨i, dk, rfl, hin, hkx, hds, S1, HF⟩ := hrel
    by_cases hlt : (i : Int) < n
    · have hij : i < n := by omega
      go_wp2_with fail
      have ea44 : ((a : Int) + (i : Int)).toNat = a + i := by omega
      have pa44 : (0 : Int) ≤ (a : Int) + (i : Int) := by omega
      have ba44 : (a : Int) + (i : Int) < (d.size : Int) := by omega
      have ra44 : IntKind.i64.wrap ((a : Int) + (i : Int)) = (a : Int) + (i : Int) := by rw [IntKind.wrap_i64]; omega
      have ec44 : ((b : Int) + (i : Int)).toNat = b + i := by omega
      have pc44 : (0 : Int) ≤ (b : Int) + (i : Int) := by omega
      have bc44 : (b : Int) + (i : Int) < (d.size : Int) := by omega
      have rc44 : IntKind.i64.wrap ((b : Int) + (i : Int)) = (b : Int) + (i : Int) := by rw [IntKind.wrap_i64]; omega
      have S2 : Aside (SWK enc k w0 blk off (swp dk (a + i) (b + i)) ((wr.drew.setCells blk (off + (a + i) * k) (enc dk[b + i]!)).setCells blk (off + (b + i) * k) (enc dk[a + i]!))) := S1.out.swapped R (a + i) (b + i) (by omega) (by omega)
      have l44a := S1.out.ld1 R (by omega) P (a + i) (by omega)
      have l44b := S1.out.ld1 R (by omega) P (b + i) (by omega)
      have s44a := S1.out.st1 R (by omega) P (a + i) (by omega) dk[b + i]!
      have s44b := S1.out.st2 R (by omega) P (a + i) (b + i) (by omega) (by omega) dk[b + i]! dk[a + i]!
      have n44a : (enc dk[a + i]!).length = k := R.hk _
      have n44b : (enc dk[b + i]!).length = k := R.hk _
      have HN : Hid (fA (swp dk (a + i) (b + i)) = swF a b (i + 1) (fA d)) := swF_step (by omega) dk (by omega) _ HF.out
      generalize enc dk[a + i]! = cI44 at S2 l44a s44b n44a
      generalize enc dk[b + i]! = cJ44 at S2 l44b s44a s44b n44b
      clear S1 HF
      go_wp2_with fail
      go_big_region_o
      clear l44a l44b s44a s44b
      generalize (wr.drew.setCells blk (off + (a + i) * k) cJ44).setCells blk (off + (b + i) * k) cI44 = w2 at S2 ⊢
      go_wp2
      go_roundg (n - (i + 1))
      case measure => omega
      case rel =>
        exact ⟨i + 1, swp dk (a + i) (b + i), by simp, by omega, by omega, by rw [size_swp]; exact hds, S2, HN⟩
    · obtain rfl : i = n := by omega
      go_wp2
      go_end0
      exact ⟨rfl, dk, hds, HF.out, S1.out⟩
theorem swapR_any (enc : α → List Value) (g : Nat) (cb : Array Value) (blk off cap a b n : Nat) (d0 d : Array α) (w0 w : World)
    (R : RowK enc 2 w0 blk off d0) (hs : d0.size = d.size) (S : SWK enc 2 w0 blk off d w) (hab : a + n ≤ b) (hbn : b + n ≤ d.size) (hsz : d.size < 4611686018427387904) :
    Calls Tryz.prog 133 #[.slice (some ⟨blk, off, none⟩) d.size cap, .int .i64 a, .int .i64 b, .int .i64 n, .func (.func g) #[] cb] w fun e w' => e = .returned (.tuple #[]) ∧ ∃ d' : Array α, d'.size = d.size ∧ fA d' = swF a b n (fA d) ∧ SWK enc 2 w0 blk off d' w' :=
  swapR_p ty 2 isAgg_ sizeOf_ enc g cb blk off cap a b n d0 d w0 w R hs S hab hbn hsz
omit [Inhabited α] in
theorem swF_l {a b n : Nat} (f : Nat → α) {x : Nat} (h : a ≤ x ∧ x < a + n) : swF a b n f x = f (x - a + b) := by
  unfold swF
  rw [if_pos h]
omit [Inhabited α] in
theorem swF_r {a b n : Nat} (f : Nat → α) {x : Nat} (hab : a + n ≤ b) (h : b ≤ x ∧ x < b + n) : swF a b n f x = f (x - b + a) := by
  unfold swF
  rw [if_neg (by omega), if_pos h]
omit [Inhabited α] in
theorem swF_out {a b n : Nat} (f : Nat → α) {x : Nat} (h : ¬ (a ≤ x ∧ x < a + n)) (h2 : ¬ (b ≤ x ∧ x < b + n)) : swF a b n f x = f x := by
  unfold swF
  rw [if_neg h, if_neg h2]
omit [Inhabited α] in
theorem rot_one {m i : Nat} (hi : i ≤ m) (f : Nat → α) : swF (m - i) m i f = rotF (m - i) m (m + i) f := by
  funext x
  by_cases h1 : m - i ≤ x ∧ x < m
  · rw [swF_l f (by omega), rotF_l f (by omega)]; congr 1; omega
  · by_cases h2 : m ≤ x ∧ x < m + i
    · rw [swF_r f (by omega) (by omega), rotF_r f (by omega)]; congr 1; omega
    · rw [swF_out f (by omega) (by omega), rotF_out (by omega) (by omega) f (by omega)]
omit [Inhabited α] in
/-- The left one is longer: its head goes behind. -/
theorem rot_left {m i j : Nat} (hi : i ≤ m) (hj : j < i) (f : Nat → α) : rotF (m - (i - j)) m (m + j) (swF (m - i) m j f) = rotF (m - i) m (m + j) f := by
  funext x
  by_cases h0 : x < m - i ∨ m + j ≤ x
  · rw [rotF_out (by omega) (by omega) _ (by omega), rotF_out (by omega) (by omega) _ (by omega), swF_out f (by omega) (by omega)]
  · by_cases h1 : x < m - i + j
    · rw [rotF_out (by omega) (by omega) _ (by omega), swF_l f (by omega), rotF_l f (by omega)]; congr 1; omega
    · by_cases h2 : x < m - (i - j) + j
      · rw [rotF_l _ (by omega), swF_r f (by omega) (by omega), rotF_r f (by omega)]; congr 1; omega
      · rw [rotF_r _ (by omega), swF_out f (by omega) (by omega), rotF_r f (by omega)]
omit [Inhabited α] in
/-- The right one is longer: its tail goes ahead. -/
theorem rot_right {m i j : Nat} (hi : i ≤ m) (hj : i < j) (f : Nat → α) : rotF (m - i) m (m + (j - i)) (swF (m - i) (m + j - i) i f) = rotF (m - i) m (m + j) f := by
  funext x
  by_cases h0 : x < m - i ∨ m + j ≤ x
  · rw [rotF_out (by omega) (by omega) _ (by omega), rotF_out (by omega) (by omega) _ (by omega), swF_out f (by omega) (by omega)]
  · by_cases h1 : x < m - i + (j - i)
    · rw [rotF_l _ (by omega), swF_out f (by omega) (by omega), rotF_l f (by omega)]
    · by_cases h2 : x < m + (j - i)
      · rw [rotF_r _ (by omega), swF_l f (by omega), rotF_l f (by omega)]; congr 1; omega
      · rw [rotF_out (by omega) (by omega) _ (by omega), swF_r f (by omega) (by omega), rotF_r f (by omega)]; congr 1; omega
set_option maxHeartbeats 4000000 in
set_option maxRecDepth 1000000 in
theorem rota_any (enc : α → List Value) (g : Nat) (cb : Array Value) (blk off cap a m b : Nat) (d0 d : Array α) (w0 w : World)
    (R : RowK enc 2 w0 blk off d0) (hs : d0.size = d.size) (S : SWK enc 2 w0 blk off d w) (ham : a < m) (hmb : m < b) (hb : b ≤ d.size) (hsz : d.size < 4611686018427387904) :
    Calls Tryz.prog 130 #[.slice (some ⟨blk, off, none⟩) d.size cap, .int .i64 a, .int .i64 m, .int .i64 b, .func (.func g) #[] cb] w fun e w' => e = .returned (.tuple #[]) ∧ ∃ d' : Array α, d'.size = d.size ∧ fA d' = rotF a m b (fA d) ∧ SWK enc 2 w0 blk off d' w' := by
  have S0 : Aside (SWK enc 2 w0 blk off d w) := S
  clear S
  have HC : Hid (∀ (p q n : Nat) (dk : Array α) (W : World), dk.size = d.size → SWK enc 2 w0 blk off dk W → p + n ≤ q → q + n ≤ d.size → Calls Tryz.prog 133 #[.slice (some ⟨blk, off, none⟩) d.size cap, .int .i64 p, .int .i64 q, .int .i64 n, .func (.func g) #[] cb] W fun e w' => e = .returned (.tuple #[]) ∧ ∃ d' : Array α, d'.size = d.size ∧ fA d' = swF p q n (fA dk) ∧ SWK enc 2 w0 blk off d' w') := by
    intro p q n dk W hd hS h1 h2
    have := swapR_any enc g cb blk off cap p q n d0 dk w0 W R (by omega) hS h1 (by omega) (by omega)
    rwa [hd] at this
  have e1 : ((m : Int) - (a : Int)) = ((m - a : Nat) : Int) := by omega
  have e2 : ((b : Int) - (m : Int)) = ((b - m : Nat) : Int) := by omega
  have E1 : Hid (((m : Int) - (a : Int)) = ((m - a : Nat) : Int) ∧ ((b : Int) - (m : Int)) = ((b - m : Nat) : Int)) := ⟨e1, e2⟩
  clear e1 e2
  go_enter Tryz.func130, Tryz.ntmps130
  go_wp2
  rw [E1.out.1, E1.out.2]
  go_loopg [10, 11] (b - a) (fun kx s10 s11 wr => ∃ (i j : Nat) (dk : Array α), s10 = .int .i64 i ∧ s11 = .int .i64 j ∧ 0 < i ∧ 0 < j ∧ a + i ≤ m ∧ m + j ≤ b ∧ i + j ≤ kx ∧ dk.size = d.size ∧ Aside (SWK enc 2 w0 blk off dk wr) ∧ Hid (rotF (m - i) m (m + j) (fA dk) = rotF a m b (fA d)))
  case atStart => exact ⟨m - a, b - m, d, rfl, rfl, by omega, by omega, by omega, by omega, by omega, rfl, S0, by show _ = _; rw [show m - (m - a) = a by omega, show m + (b - m) = b by omega]⟩
  case round =>
    clear S0
    obtain ⟨i, j, dk, rfl, rfl, hi0, hj0, hai, hjb, hkx, hds, S1, HF⟩ := hrel
    have emi : ((m : Int) - (i : Int)) = ((m - i : Nat) : Int) := by omega
    by_cases hij : i = j
    · subst hij
      go_wp2_with fail
      refine (HC.out (m - i) m i dk _ hds S1.out (by omega) (by omega)).mono ?_
      rintro e w2 ⟨rfl, d', hd', hF, hS⟩
      go_wp2
      go_end0
      refine ⟨rfl, d', hd', ?_, hS⟩
      rw [hF, rot_one (by omega), HF.out]
    · have hne : ¬ (i : Int) = (j : Int) := by omega
      by_cases hgt : j < i
      · have hg1 : (j : Int) < (i : Int) := by omega
        go_wp2_with fail
        refine (HC.out (m - i) m j dk _ hds S1.out (by omega) (by omega)).mono ?_
        rintro e w2 ⟨rfl, d', hd', hF, hS⟩
        have HN : Hid (rotF (m - (i - j)) m (m + j) (fA d') = rotF a m b (fA d)) := by show _ = _; rw [hF, rot_left (by omega) hgt, HF.out]
        have S2 : Aside (SWK enc 2 w0 blk off d' w2) := hS
        clear hF hS S1 HF
        go_wp2
        go_roundg (i - j + j)
        case measure => omega
        case rel => exact ⟨i - j, j, d', by first | (congr 1; omega) | (simp; omega), rfl, by omega, hj0, by omega, hjb, by omega, hd', S2, HN⟩
      · have hg1 : ¬ (j : Int) < (i : Int) := by omega
        have emj : ((m : Int) + (j : Int) - (i : Int)) = ((m + j - i : Nat) : Int) := by omega
        go_wp2_with fail
        refine (HC.out (m - i) (m + j - i) i dk _ hds S1.out (by omega) (by omega)).mono ?_
        rintro e w2 ⟨rfl, d', hd', hF, hS⟩
        have HN : Hid (rotF (m - i) m (m + (j - i)) (fA d') = rotF a m b (fA d)) := by show _ = _; rw [hF, rot_right (by omega) (by omega), HF.out]
        have S2 : Aside (SWK enc 2 w0 blk off d' w2) := hS
        clear hF hS S1 HF
        go_wp2
        go_roundg (i + (j - i))
        case measure => omega
        case rel => exact ⟨i, j - i, d', rfl, by first | (congr 1; omega) | (simp; omega), hi0, by omega, hai, by omega, by omega, hd', S2, HN⟩
end SoH
end Go.Proofs.YtpdkdgmaofhlkaaGreatDoor
/- slices' stable merge of two runs that follow one another (symMergeCmpFunc) where one of them is of one thing, at things of several cells each. Conditions as each names them. -/
namespace Go.Proofs.YtpdkdgmaofhlkaaGreatDoor
open Go.Shelf Go.RowKit Go.Lib Go.Sort
set_option linter.unusedVariables false
set_option linter.unusedSimpArgs false

namespace SoH
variable {α : Type} [Inhabited α] {κ : Type} [DecidableEq κ]
section
omit [Inhabited α]
theorem sy_left {lt : α → α → Bool} {f : Nat → α} {a s m e b : Nat} (h : Sy lt f a s m e b) (hx : ∀ x y, a ≤ x → x < s → m ≤ y → y < e → lt (f y) (f x) = false) : Srt lt (rotF s m e f) a (s + (e - m)) := fun x y h1 h2 h3 => by
  have := h.o
  by_cases hy : y < s
  · exact h.s1 x y h1 h2 hy
  · by_cases hs : x < s
    · rw [rotF_out h.o.2.1 h.o.2.2.1 f (x := x) (by omega), rotF_l f (by omega)]
      exact hx _ _ (by omega) (by omega) (by omega) (by omega)
    · exact h.s2 x y (by omega) h2 h3
theorem sy_right {lt : α → α → Bool} {f : Nat → α} {a s m e b : Nat} (h : Sy lt f a s m e b) (hx : ∀ x y, s ≤ x → x < m → e ≤ y → y < b → lt (f y) (f x) = false) : Srt lt (rotF s m e f) (s + (e - m)) b := fun x y h1 h2 h3 => by
  have := h.o
  by_cases hy : y < e
  · exact h.s3 x y h1 h2 hy
  · by_cases hs : x < e
    · rw [rotF_r f (x := x) (by omega), rotF_out h.o.2.1 h.o.2.2.1 f (by omega)]
      exact hx _ _ (by omega) (by omega) (by omega) (by omega)
    · exact h.s4 x y (by omega) h2 h3
theorem rot_up {a q : Nat} (haq : a ≤ q) (f : Nat → α) : rotF q (q + 1) (q + 2) (rotF a (a + 1) (q + 1) f) = rotF a (a + 1) (q + 2) f := by
  funext x
  by_cases h1 : x < a ∨ q + 2 ≤ x
  · rw [rotF_out (by omega) (by omega) _ (by omega), rotF_out (by omega) (by omega) _ (by omega), rotF_out (by omega) (by omega) _ (by omega)]
  · by_cases h2 : x < q
    · rw [rotF_out (by omega) (by omega) _ (by omega), rotF_l f (by omega), rotF_l f (by omega)]
    · by_cases h3 : x = q
      · rw [rotF_l _ (by omega), rotF_out (by omega) (by omega) _ (by omega), rotF_l f (by omega)]; congr 1; omega
      · rw [rotF_r _ (by omega)]
        by_cases h4 : a = q
        · rw [rotF_none (by omega) (by omega) (by omega), rotF_r f (by omega)]; congr 1; omega
        · rw [rotF_r _ (by omega), rotF_r f (by omega)]; congr 1; omega
theorem rot_down {q m : Nat} (hqm : q < m) (f : Nat → α) : rotF q (q + 1) (q + 2) (rotF (q + 1) m (m + 1) f) = rotF q m (m + 1) f := by
  funext x
  by_cases h1 : x < q ∨ m + 1 ≤ x
  · rw [rotF_out (by omega) (by omega) _ (by omega), rotF_out (by omega) (by omega) _ (by omega), rotF_out (by omega) (by omega) _ (by omega)]
  · by_cases h3 : x = q
    · rw [rotF_l (s := q) (m := q + 1) (e := q + 2) _ (by omega)]
      by_cases h4 : q + 1 = m
      · rw [rotF_none (s := q + 1) (m := m) (e := m + 1) (by omega) (by omega) (by omega), rotF_l f (by omega)]; congr 1; omega
      · rw [rotF_l f (by omega), rotF_l f (by omega)]; congr 1; omega
    · by_cases h4 : x = q + 1
      · rw [rotF_r _ (by omega), rotF_out (by omega) (by omega) _ (by omega), rotF_r f (by omega)]; congr 1; omega
      · rw [rotF_out (by omega) (by omega) _ (by omega), rotF_r f (by omega), rotF_r f (by omega)]
end
theorem fA_swp_adj2 (d : Array α) (j : Nat) (hj : j + 1 < d.size) : fA (swp d j (j + 1)) = rotF j (j + 1) (j + 2) (fA d) := by
  rw [← fA_swp_adj d j hj]
  funext x
  rw [fA_swp d j (j + 1) (by omega) hj, fA_swp d (j + 1) j hj (by omega)]
  by_cases h1 : x = j + 1
  · rw [if_pos h1, if_neg (by omega), if_pos h1]
  · rw [if_neg h1]
    by_cases h2 : x = j
    · rw [if_pos h2, if_pos h2]
    · rw [if_neg h2, if_neg h2, if_neg h1]
theorem half (i j : Nat) (hi : i < j) : i ≤ (i + j) / 2 ∧ (i + j) / 2 < j := by omega
set_option maxHeartbeats 4000000 in
set_option maxRecDepth 1000000 in
/-- The left one is one thing. -/
theorem sym1_p {P : Program} (L : Ty P) (k : Nat) (aE : ∀ w, (isAgg 97).run P w = .ok true w) (zE : ∀ w, (Go.sizeOf 97).run P w = .ok k w) (enc : α → List Value) (cf : α → α → Int) (ky : α → κ) (hO : KO (ltOf cf) ky) (g : Nat) (cb : Array Value) (blk off cap a b : Nat) (d0 d : Array α) (w0 w : World)
    (eg : ∀ args w, (callFunc g args).run P w = .ok (.enter g args) w) (hcmp : CmpLays P g cb enc k cf blk off d0.size w0)
    (R : RowK enc k w0 blk off d0) (hs : d0.size = d.size) (S : SWK enc k w0 blk off d w) (hmb : a + 1 < b) (hb : b ≤ d.size) (hsz : d.size < 4611686018427387904) (hl : Srt (ltOf cf) (fA d) (a + 1) b) :
    Calls P 127 #[.slice (some ⟨blk, off, none⟩) d.size cap, .int .i64 a, .int .i64 ((a : Int) + 1), .int .i64 b, .func (.func g) #[] cb] w fun e w' => e = .returned (.tuple #[]) ∧ ∃ d' : Array α, d'.size = d.size ∧ Mg (ltOf cf) ky (fA d) (fA d') a b ∧ SWK enc k w0 blk off d' w' := by
  have mixed := L.mixed; have t0 := L.t0; have a0 := L.a0; have z0 := L.z0; have v0 := L.v0; have t3 := L.t3; have a3 := L.a3; have z3 := L.z3; have v3 := L.v3; have t4 := L.t4; have a4 := L.a4; have z4 := L.z4; have v4 := L.v4; have t22 := L.t22; have a22 := L.a22; have z22 := L.z22; have v22 := L.v22; have t25 := L.t25; have a25 := L.a25; have z25 := L.z25; have v25 := L.v25; have t40 := L.t40; have a40 := L.a40; have z40 := L.z40; have v40 := L.v40
  have HC : Aside _ := hcmp
  have S0 : Aside (SWK enc k w0 blk off d w) := S
  have HL : Hid (Srt (ltOf cf) (fA d) (a + 1) b) := hl
  clear hcmp S hl
  have ham : ((a : Int) + 1 - (a : Int)) = 1 := by omega
  go_enter L.fsy, Tryz.ntmps127
  go_wp2
  go_loopg [10, 11] (b - a) (fun kx s10 s11 wr => ∃ (i j : Nat), s10 = .int .i64 i ∧ s11 = .int .i64 j ∧ a + 1 ≤ i ∧ i ≤ j ∧ j ≤ b ∧ j - i ≤ kx ∧ Aside (SWK enc k w0 blk off d wr) ∧ Hid (∀ x, a + 1 ≤ x → x < i → ltOf cf (fA d x) (fA d a) = true) ∧ Hid (∀ x, j ≤ x → x < b → ltOf cf (fA d x) (fA d a) = false))
  case atStart => exact ⟨a + 1, b, by simp, rfl, by omega, by omega, by omega, by omega, S0, fun x h1 h2 => by omega, fun x h1 h2 => by omega⟩
  case round =>
    clear S0
    obtain ⟨i, j, rfl, rfl, hai, hij, hjb, hkx, S1, HA, HB⟩ := hrel
    by_cases hlt : i < j
    · have hltz : (i : Int) < (j : Int) := by omega
      obtain ⟨q, HQ⟩ : ∃ q : Nat, Hid (q = (i + j) / 2) := ⟨_, rfl⟩
      have hq1 : i ≤ q := by rw [HQ.out]; exact (half i j hlt).1
      have hq2 : q < j := by rw [HQ.out]; exact (half i j hlt).2
      have hq : ((i : Int) + (j : Int)) / 2 = (q : Int) := by rw [HQ.out]; omega
      go_wp2_with fail
      clear hq
      cases hlv : ltOf cf d[q]! d[a]! with
      | true =>
        have HV : Hid (ltOf cf (fA d q) (fA d a) = true) := hlv
        have ea11 : (((q : Int) : Int)).toNat = q := by omega
        have pa11 : (0 : Int) ≤ ((q : Int) : Int) := by omega
        have ba11 : ((q : Int) : Int) < (d.size : Int) := by omega
        have ec11 : (((a : Int) : Int)).toNat = a := by omega
        have pc11 : (0 : Int) ≤ ((a : Int) : Int) := by omega
        have bc11 : ((a : Int) : Int) < (d.size : Int) := by omega
        obtain ⟨x11, hx11⟩ : ∃ x, x = d[q]! := ⟨_, rfl⟩
        obtain ⟨y11, hy11⟩ : ∃ x, x = d[a]! := ⟨_, rfl⟩
        have l11a := S1.out.ld R (by omega) P (q) (by omega)
        have l11b := S1.out.ld R (by omega) P (a) (by omega)
        rw [← hx11] at l11a
        rw [← hy11] at l11b
        have hc11 := S1.out.cmp HC.out (by omega) x11 y11
        have hv11 : cf x11 y11 < 0 := by rw [hx11, hy11]; exact of_decide_eq_true hlv
        have hd11 : decide (cf x11 y11 < 0) = true := decide_eq_true hv11
        clear hx11 hy11
        go_wp2_with fail
        go_quiet_grown (first | (go_at_fn g; refine Calls.grown_of (hc11 _ _)))
        have S2 : Aside (SWK enc k w0 blk off d (grow (wr.drewN nq) osq)) := S1.out.grown nq osq
        clear l11a l11b hc11 S1
        generalize grow (wr.drewN nq) osq = w2 at S2 ⊢
        clear nq osq
        have HA2 : Hid (∀ x, a + 1 ≤ x → x < q + 1 → ltOf cf (fA d x) (fA d a) = true) := fun x h1 h2 => le_lt hO.swo (HL.out.le hO.swo h1 (by omega) (by omega)) HV.out
        clear hlv HV
        go_wp2
        go_roundg (j - (q + 1))
        case measure => omega
        case rel => exact ⟨q + 1, j, by simp, rfl, by omega, by omega, by omega, by omega, S2, HA2, HB⟩
      | false =>
        have HV : Hid (ltOf cf (fA d q) (fA d a) = false) := hlv
        have ea12 : (((q : Int) : Int)).toNat = q := by omega
        have pa12 : (0 : Int) ≤ ((q : Int) : Int) := by omega
        have ba12 : ((q : Int) : Int) < (d.size : Int) := by omega
        have ec12 : (((a : Int) : Int)).toNat = a := by omega
        have pc12 : (0 : Int) ≤ ((a : Int) : Int) := by omega
        have bc12 : ((a : Int) : Int) < (d.size : Int) := by omega
        obtain ⟨x12, hx12⟩ : ∃ x, x = d[q]! := ⟨_, rfl⟩
        obtain ⟨y12, hy12⟩ : ∃ x, x = d[a]! := ⟨_, rfl⟩
        have l12a := S1.out.ld R (by omega) P (q) (by omega)
        have l12b := S1.out.ld R (by omega) P (a) (by omega)
        rw [← hx12] at l12a
        rw [← hy12] at l12b
        have hc12 := S1.out.cmp HC.out (by omega) x12 y12
        have hv12 : ¬ cf x12 y12 < 0 := by rw [hx12, hy12]; exact of_decide_eq_false hlv
        have hd12 : decide (cf x12 y12 < 0) = false := decide_eq_false hv12
        clear hx12 hy12
        go_wp2_with fail
        go_quiet_grown (first | (go_at_fn g; refine Calls.grown_of (hc12 _ _)))
        have S2 : Aside (SWK enc k w0 blk off d (grow (wr.drewN nq) osq)) := S1.out.grown nq osq
        clear l12a l12b hc12 S1
        generalize grow (wr.drewN nq) osq = w2 at S2 ⊢
        clear nq osq
        have HB2 : Hid (∀ x, q ≤ x → x < b → ltOf cf (fA d x) (fA d a) = false) := fun x h1 h2 => hO.swo.ntrans _ _ _ (HL.out.le hO.swo (by omega) h1 h2) HV.out
        clear hlv HV
        go_wp2
        go_roundg (q - i)
        case measure => omega
        case rel => exact ⟨i, q, rfl, rfl, by omega, by omega, by omega, by omega, S2, HA, HB2⟩
    · obtain rfl : i = j := by omega
      have hltz : ¬ (i : Int) < (i : Int) := by omega
      have HS : Hid (Sy (ltOf cf) (fA d) a a (a + 1) i b) := ⟨⟨by omega, by omega, by omega, by omega⟩, fun x y h1 h2 h3 => by omega, HL.out, fun x y h1 h2 h3 h4 => (show a = x by omega) ▸ HA.out y h3 h4, fun x y h1 h2 h3 h4 => by omega⟩
      have HE : Hid (Mg (ltOf cf) ky (fA d) (rotF a (a + 1) i (fA d)) a b) := HS.out.merged hO (Mg.refl (sy_left HS.out (fun x y h1 h2 h3 h4 => by omega))) (Mg.refl (sy_right HS.out (fun x y h1 h2 h3 h4 => (show a = x by omega) ▸ HB.out y h3 h4)))
      clear HA HB HS
      go_wp2
      go_loopg [13] (b - a) (fun kx s13 wr => ∃ (q : Nat) (dk : Array α), s13 = .int .i64 q ∧ a ≤ q ∧ q < i ∧ i - q ≤ kx ∧ dk.size = d.size ∧ Aside (SWK enc k w0 blk off dk wr) ∧ Hid (fA dk = rotF a (a + 1) (q + 1) (fA d)))
      case atStart => exact ⟨a, d, rfl, by omega, by omega, by omega, rfl, S1, (rotF_none (by omega) (by omega) (Or.inr rfl) _).symm⟩
      case round =>
        clear S1
        obtain ⟨q, dk, rfl, haq, hqi, hkx2, hds, S1, HF⟩ := hrel
        by_cases hqq : q + 1 < i
        · have hqz : (q : Int) < (i : Int) - 1 := by omega
          have HN : Hid (fA (swp dk q (q + 1)) = rotF a (a + 1) (q + 2) (fA d)) := by show _ = _; rw [fA_swp_adj2 dk q (by omega), HF.out, rot_up haq]
          go_wp2_with fail
          have ea13 : (((q : Int) : Int)).toNat = q := by omega
          have pa13 : (0 : Int) ≤ ((q : Int) : Int) := by omega
          have ba13 : ((q : Int) : Int) < (d.size : Int) := by omega
          have ra13 : IntKind.i64.wrap ((q : Int) : Int) = ((q : Int) : Int) := by rw [IntKind.wrap_i64]; omega
          have ec13 : (((q : Int) + 1 : Int)).toNat = q + 1 := by omega
          have pc13 : (0 : Int) ≤ ((q : Int) + 1 : Int) := by omega
          have bc13 : ((q : Int) + 1 : Int) < (d.size : Int) := by omega
          have rc13 : IntKind.i64.wrap ((q : Int) + 1 : Int) = ((q : Int) + 1 : Int) := by rw [IntKind.wrap_i64]; omega
          have S2 : Aside (SWK enc k w0 blk off (swp dk (q) (q + 1)) ((wr.drew.setCells blk (off + (q) * k) (enc dk[q + 1]!)).setCells blk (off + (q + 1) * k) (enc dk[q]!))) := S1.out.swapped R (q) (q + 1) (by omega) (by omega)
          have l13a := S1.out.ld1 R (by omega) P (q) (by omega)
          have l13b := S1.out.ld1 R (by omega) P (q + 1) (by omega)
          have s13a := S1.out.st1 R (by omega) P (q) (by omega) dk[q + 1]!
          have s13b := S1.out.st2 R (by omega) P (q) (q + 1) (by omega) (by omega) dk[q + 1]! dk[q]!
          have n13a : (enc dk[q]!).length = k := R.hk _
          have n13b : (enc dk[q + 1]!).length = k := R.hk _
          generalize enc dk[q]! = cI13 at S2 l13a s13b n13a
          generalize enc dk[q + 1]! = cJ13 at S2 l13b s13a s13b n13b
          clear S1
          go_wp2_with fail
          go_big_region_o
          clear l13a l13b s13a s13b
          generalize (wr.drew.setCells blk (off + (q) * k) cJ13).setCells blk (off + (q + 1) * k) cI13 = w2 at S2 ⊢
          go_wp2
          go_roundg (i - (q + 1))
          case measure => omega
          case rel => exact ⟨q + 1, swp dk q (q + 1), by simp, by omega, by omega, by omega, by rw [size_swp]; exact hds, S2, HN⟩
        · obtain rfl : i = q + 1 := by omega
          have hqz : ¬ (q : Int) < ((q + 1 : Nat) : Int) - 1 := by omega
          have hqz2 : ¬ (q : Int) < (q : Int) + 1 - 1 := by omega
          go_wp2
          refine bodyPost_ret (results_none rfl _ _ _) rfl ?_
          exact ⟨rfl, dk, hds, by rw [HF.out]; exact HE.out, S1.out⟩
end SoH
end Go.Proofs.YtpdkdgmaofhlkaaGreatDoor
