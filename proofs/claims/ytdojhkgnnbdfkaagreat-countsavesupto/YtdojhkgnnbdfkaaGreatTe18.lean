/- What both Encodes tell of a checkpoint; its twin read; a Book that is told a checkpoint. Conditions as each names them. -/
import Derived.Test.YtdojhkgnnbdfkaaGreatTs18
import Derived.Test.YtdojhkgnnbdfkaaGreatYe18
import Derived.Test.YtdojhkgnnbdfkaaGreatSy18
import Derived.Test.YtdojhkgnnbdfkaaGreatCi13
import Derived.Test.YtdojhkgnnbdfkaaGreatSame
namespace Go.Proofs.YtdojhkgnnbdfkaaGreat
open BigFrame Go.ChangeShapes Go.WideShapes Go.ChangeAt Go.RowKit Go.Lib Go.Maps
set_option linter.unusedVariables false
set_option linter.unusedSimpArgs false

/-- What is told of a checkpoint: what is wrong, and its bytes. -/
def ToldD (m : Int) (bs : List Int) (ps : List Kv) (c : Nat) (ys : List Nat) : Prop := (OkS m bs ps ∧ c = 0 ∧ ys = encD m bs ps) ∨ (¬ OkS m bs ps ∧ c = 1 ∧ ys = [])
theorem ToldD.ex (m : Int) (bs : List Int) (ps : List Kv) : ∃ c ys, ToldD m bs ps c ys := by
  by_cases h : OkS m bs ps
  · exact ⟨0, _, Or.inl ⟨h, rfl, rfl⟩⟩
  · exact ⟨1, _, Or.inr ⟨h, rfl, rfl⟩⟩
theorem ToldD.ck {m : Int} {bs : List Int} {hs : List Hd} {ps : List Kv} {c : Nat} {ys : List Nat} (h : ToldD m bs ps c ys) (hp : hs.map Hd.kv = ps) : CkS m bs hs c := by
  subst hp
  rcases h with ⟨a, b, _⟩ | ⟨a, b, _⟩
  · exact Or.inl ⟨b, a⟩
  · exact Or.inr ⟨b, a⟩
theorem ToldD.len {m : Int} {bs : List Int} {ps : List Kv} {c : Nat} {ys : List Nat} (h : ToldD m bs ps c ys) (hz : bs.length + szKs ps ≤ 1048576) : ys.length < 2^26 := by
  rcases h with ⟨a, _, rfl⟩ | ⟨_, _, rfl⟩
  · have := (encD_length m bs ps).2
    omega
  · simp
theorem row_owns {w : World} {k N : Nat} {ys : List Nat} (h : w.heap[k]? = some (.cells (bts ys).toArray 5 (0, 0))) (hN : N = ys.length) (hm : N < 2^40) : w.ownsRow 0 5 1 (.slice (some ⟨k, 0, none⟩) N N) N (bts ys) := by
  refine ⟨by rw [bts_length]; omega, .inr ⟨k, N, (bts ys).toArray, rfl, Nat.zero_le _, h, Nat.le_refl _, by simp only [maxLen]; omega, by simp [bts_length]; omega, ?_⟩⟩
  simp only [Nat.mul_one]
  rw [List.take_of_length_le (by rw [bts_length]; omega)]
theorem own_rs {w : World} {ao : Option Addr} {n cap : Nat} {xs : List Nat} (h : w.ownsRow 0 5 1 (.slice ao n cap) n (bts xs)) (hn : n = xs.length) (hl : xs.length < 2^41) : Rs w ao xs := by
  have h' : Wn w (.slice ao n cap) xs := by unfold Wn; rw [← hn]; exact h
  exact h'.rs hl
theorem Rs.fr5 {w w' : World} {ao : Option Addr} {xs : List Nat} (h : Rs w ao xs) (hf : Fr [] w w') : Rs w' ao xs := by
  refine ⟨fun h0 => ?_, h.len⟩
  obtain ⟨b, off, e, hc⟩ := h.lies h0
  exact ⟨b, off, e, fun j hj => by
    have hlt := World.block_lt_of_cell? w _ (hc j hj)
    rw [World.cell?_of_block (hf.block b hlt (by simp))]
    exact hc j hj⟩
/-- The program's Encode. -/
theorem dencode_gen (m : Int) (bo ho : Option Addr) (Lb cb Lh ch c N : Nat) (bs : List Int) (hs : List Hd) (ps : List Kv) (ys : List Nat) (w : World) (hI : IRs w bo bs) (hLb : Lb = bs.length) (hH : HRs w ho hs) (hLh : Lh = hs.length) (hp : hs.map Hd.kv = ps) (hT : ToldD m bs ps c ys) (hN : N = ys.length) (hz : bs.length + szKs ps ≤ 1048576) :
    Calls Tryz.prog 50 #[.agg #[.int .i64 m, .slice bo Lb cb, .slice ho Lh ch]] w fun e w' => ∃ ao cap, e = .returned (.tuple #[.slice ao N cap, .int .i64 (c : Int)]) ∧ w'.ownsRow 0 5 1 (.slice ao N cap) N (bts ys) ∧ (∀ k, (Value.slice ao N cap).ownBlock = some k → w.heap.size ≤ k) ∧ Fr [] w w' := by
  have hl := hT.len hz
  subst hp
  rcases hT with ⟨hok, rfl, rfl⟩ | ⟨hno, rfl, rfl⟩
  · refine (dencode_ok m bo ho Lb cb Lh ch N bs hs _ w hI hLb hH hLh hok rfl hN (by omega)).mono ?_
    rintro e w' ⟨k, rfl, hk, hrow, hF⟩
    exact ⟨some ⟨k, 0, none⟩, N, rfl, row_owns hrow hN (by omega), by intro j hj; simp [Value.ownBlock] at hj; omega, hF⟩
  · simp only [List.length_nil] at hN
    subst hN
    refine (dencode_no m bo ho Lb cb Lh ch bs hs w hI hLb hH hLh hno).mono ?_
    rintro e w' ⟨rfl, hF⟩
    exact ⟨none, 0, rfl, World.ownsRow_nil _ _ _ _, by intro j hj; simp [Value.ownBlock] at hj, hF⟩
/-- The document's. -/
theorem ywencode_gen (m : Int) (bo ho : Option Addr) (Lb cb Lh ch c N : Nat) (bs : List Int) (hs : List Hd) (ys : List Nat) (w : World) (hI : IRs w bo bs) (hLb : Lb = bs.length) (hH : HRs w ho hs) (hLh : Lh = hs.length) (hT : ToldD m bs (hs.map Hd.kv) c ys) (hN : N = ys.length) (hz : bs.length + szKs (hs.map Hd.kv) ≤ 1048576) (hL : Lh < 2^21) :
    Calls Tryz.prog 35 #[.agg #[.int .i64 m, .slice bo Lb cb, .slice ho Lh ch]] w fun e w' => ∃ ao cap, e = .returned (.tuple #[.slice ao N cap, .int .i64 (c : Int)]) ∧ Rs w' ao ys ∧ Fr [] w w' := by
  have hl := hT.len hz
  rcases hT with ⟨hok, rfl, rfl⟩ | ⟨hno, rfl, rfl⟩
  · refine (ywencode_ok m bo ho Lb cb Lh ch N bs hs _ w hI hLb hH hLh hok rfl hN (by omega) (by omega) (by omega)).mono ?_
    rintro e w' ⟨ao, cap, rfl, hW⟩
    exact ⟨ao, cap, rfl, hW.it.wn.rs (by omega), hW.fr⟩
  · simp only [List.length_nil] at hN
    subst hN
    refine (ywencode_no m bo ho Lb cb Lh ch bs hs w hI hLb hH hLh hno).mono ?_
    rintro e w' ⟨rfl, hF⟩
    exact ⟨none, 0, rfl, Rs.nil _ _, hF⟩
/-! ### The twin -/
theorem TwS.irs {w0 w w1 : World} {bs : List Int} {hs : List Hd} {bb bh : Nat} {ks : List Nat} {bo : Option Addr} (h : TwS w0 w bs hs bb bh ks) (hI : IRs w1 bo bs) : IRs w (some ⟨bb, 0, none⟩) bs := by
  refine ⟨fun h0 => ⟨bb, 0, rfl, lt_of_block h.rb, fun i hi => ?_⟩, hI.few⟩
  rw [cell_of_row _ _ _ _ _ _ h.rb, List.getElem?_toArray, Nat.zero_add, intsT_get _ _ (by simp; omega)]
  congr 2
  simp [List.getD, List.getElem?_append_left hi]
theorem TwS.hrs {w0 w w1 : World} {bs : List Int} {hs : List Hd} {bb bh : Nat} {ks : List Nat} {ho : Option Addr} (h : TwS w0 w bs hs bb bh ks) (hH : HRs w1 ho hs) : HRs w (some ⟨bh, 0, none⟩) (twTs hs ks) := twins_hrs hH h.tw h.rh
theorem TwS.kv {w0 w : World} {bs : List Int} {hs : List Hd} {bb bh : Nat} {ks : List Nat} (h : TwS w0 w bs hs bb bh ks) : (twTs hs ks).map Hd.kv = hs.map Hd.kv := twins_kv h.tw
theorem TwS.iown {w0 w : World} {bs : List Int} {hs : List Hd} {bb bh L : Nat} {ks : List Nat} (h : TwS w0 w bs hs bb bh ks) (hL : L = bs.length) (hm : L < 2^21) : w.ownsRow 0 3 1 (.slice (some ⟨bb, 0, none⟩) L (L + 1)) L (intsT bs) := by
  refine ⟨by rw [intsT_length, hL, Nat.mul_one], .inr ⟨bb, L + 1, (intsT (bs ++ [7777])).toArray, rfl, Nat.zero_le _, h.rb, by omega, by simp only [maxLen]; omega, by simp [intsT_length]; omega, ?_⟩⟩
  have e : intsT (bs ++ [7777]) = intsT bs ++ intsT [7777] := by simp [intsT]
  simp only [e]
  rw [List.take_append_of_le_length (by rw [intsT_length]; omega), List.take_of_length_le (by rw [intsT_length]; omega)]
/-! ### The sizes -/
theorem szXs_ge (vs : List Vn) : vs.length ≤ szXs vs := by
  induction vs with
  | nil => simp
  | cons v r ih =>
    have hz : szX v = 1 + v.val.size := rfl
    simp only [szXs, List.map_cons, List.sum_cons, List.length_cons] at *
    omega
theorem szK_ge (p : Kv) : 1 ≤ szK p ∧ p.2.length ≤ szK p := by
  have := szXs_ge p.2
  unfold szK
  omega
theorem szKs_few {hs : List Hd} (h : szKs (hs.map Hd.kv) ≤ 1048576) : hs.length ≤ 1048576 ∧ ∀ x ∈ hs, x.vs.length ≤ 1048576 := by
  have key : ∀ l : List Hd, l.length ≤ szKs (l.map Hd.kv) ∧ ∀ x ∈ l, x.vs.length ≤ szKs (l.map Hd.kv) := by
    intro l
    induction l with
    | nil => simp [szKs]
    | cons b r ih =>
      have h1 : 1 ≤ szK b.kv ∧ b.vs.length ≤ szK b.kv := szK_ge b.kv
      obtain ⟨i1, i2⟩ := ih
      have e : szKs ((b :: r).map Hd.kv) = szK b.kv + szKs (r.map Hd.kv) := by simp [szKs]
      rw [e]
      refine ⟨by simp only [List.length_cons]; omega, fun x hx => ?_⟩
      rcases List.mem_cons.1 hx with rfl | hx
      · omega
      · have := i2 x hx; omega
  obtain ⟨a, b⟩ := key hs
  exact ⟨by omega, fun x hx => by have := b x hx; omega⟩
namespace Bq
theorem moved_weak {n k : Nat} {v v' : Value} (h : Moved k v v') (hk : n ≤ k) : Moved n v v' := by
  rcases h with h | ⟨b, h1, h2⟩
  · exact Or.inl h
  · exact Or.inr ⟨b, h1, Nat.le_trans hk h2⟩