/- What the law CodecBack puts and takes, as plain lists; lemmas on worlds for it. -/
import Derived.Test.YtcajoihfdeoikaaScript
import Derived.Deep.RegionWith
import Derived.Deep.LoopGhost
namespace Go.Proofs.Ytcajoihfdeoikaa
open Go.ChangeShapes Go.WideShapes Go.ChangeAt Go.RowKit Go.Lib

theorem Try.infoOp : (Try.prog.info? 37).map (fun i => (i.zero, i.size)) = some (some (.agg #[.int .u8 0, .int .u64 0, .int .i64 0, .string ⟨#[]⟩, .int .i64 0]), 5) := by kernel_rfl
theorem Try.bytesOp : ((Try.prog.info? 37).map (fun i => decide (i.bytes ≤ 64))) = some true := by kernel_rfl
/-- An operation's cells. -/
def opC (v : OpV) : List Value := [.int .u8 v.k, .int .u64 v.n, .int .i64 v.width, .string v.text, .int .i64 v.most]
def opsC : List OpV → List Value
  | [] => []
  | v :: r => opC v ++ opsC r
theorem opsC_append (a b : List OpV) : opsC (a ++ b) = opsC a ++ opsC b := by
  induction a with
  | nil => rfl
  | cons v r ih => simp [opsC, ih]
theorem opsC_length (a : List OpV) : (opsC a).length = a.length * 5 := by
  induction a with
  | nil => rfl
  | cons v r ih => simp only [opsC, opC, List.length_append, List.length_cons, List.length_nil, ih]; omega
theorem opsC_get (a : List OpV) (j c : Nat) (hj : j < a.length) (hc : c < 5) : (opsC a)[j * 5 + c]? = (opC (a.getD j OpV.zero))[c]? := by
  induction a generalizing j with
  | nil => simp at hj
  | cons v r ih =>
    cases j with
    | zero =>
      simp only [opsC, Nat.zero_mul, Nat.zero_add]
      rw [List.getElem?_append_left (by simp [opC]; omega)]
      simp
    | succ j =>
      simp only [opsC]
      rw [List.getElem?_append_right (by simp [opC]; omega)]
      have e : (j + 1) * 5 + c - (opC v).length = j * 5 + c := by simp [opC]; omega
      rw [e, ih j (by simpa using hj)]
      simp

/-- The number with a sign that an operation puts. -/
def sgn (n : Int) : Int := wrap64 n
/-- What an operation puts. -/
def opB (v : OpV) : List Nat :=
  if v.k = 1 then leB v.width.toNat v.n.toNat
  else if v.k = 3 then enc (zig (sgn v.n)).toNat
  else if v.k = 4 then enc v.text.size ++ strNs v.text
  else enc v.n.toNat
/-- Is it put at all? -/
def opOK (v : OpV) : Prop := v.k = 1 → (1 ≤ v.width ∧ v.width ≤ 8 ∧ v.n / 2 ^ (8 * v.width).toNat = 0)
def opsB : List OpV → List Nat
  | [] => []
  | v :: r => opB v ++ opsB r
theorem opsB_append (a b : List OpV) : opsB (a ++ b) = opsB a ++ opsB b := by
  induction a with
  | nil => rfl
  | cons v r ih => simp [opsB, ih]
theorem opB_length (v : OpV) (h : opOK v) : (opB v).length ≤ 10 + v.text.size := by
  unfold opB
  split
  · rename_i hk
    have := h hk
    rw [leB_length]; omega
  · split
    · have := enc_length (zig (sgn v.n)).toNat; omega
    · split
      · have := enc_length v.text.size; rw [List.length_append, strNs_length]; omega
      · have := enc_length v.n.toNat; omega
theorem opsB_length (a : List OpV) (h : ∀ v ∈ a, opOK v) : (opsB a).length ≤ total a := by
  induction a with
  | nil => simp [opsB, total]
  | cons v r ih =>
    simp only [opsB, total, List.length_append]
    have h1 := opB_length v (h v (by simp))
    have h2 := ih (fun x hx => h x (by simp [hx]))
    omega
theorem opB_low (v : OpV) : ∀ x ∈ opB v, x < 256 := by
  intro x hx
  unfold opB at hx
  split at hx
  · exact leB_lt _ _ x hx
  · split at hx
    · exact enc_lt _ x hx
    · split at hx
      · rcases List.mem_append.1 hx with hx | hx
        · exact enc_lt _ x hx
        · exact strNs_lt _ x hx
      · exact enc_lt _ x hx
theorem opsB_low (a : List OpV) : ∀ x ∈ opsB a, x < 256 := by
  induction a with
  | nil => intro x hx; simp [opsB] at hx
  | cons v r ih =>
    intro x hx
    simp only [opsB] at hx
    rcases List.mem_append.1 hx with hx | hx
    · exact opB_low v x hx
    · exact ih x hx
theorem sgn_bd (n : Int) : -9223372036854775808 ≤ sgn n ∧ sgn n ≤ 9223372036854775807 := by unfold sgn wrap64; omega

theorem back_var (v : OpV) (rest : List Nat) (hv : v.ok) : rdBy (shortF 0 0) 0 (enc v.n.toNat ++ rest) 0 = (v.n.toNat, rest, 0) := by
  have h := short_enc v.n.toNat rest (by have := hv.n1; omega)
  simp [rdBy, h]
theorem back_int (x : Int) (rest : List Nat) (h0 : -9223372036854775808 ≤ x) (h1 : x ≤ 9223372036854775807) : rdBy intF 0 (enc (zig x).toNat ++ rest) 0 = (x, rest, 0) := by
  have hz := zig_bd x h0 h1
  have h := short_enc (zig x).toNat rest (by omega)
  have e : (((zig x).toNat : Nat) : Int) = zig x := by omega
  simp [rdBy, intF, h, e, zag_zig]
theorem back_text (s : ByteArray) (rest : List Nat) (hs : s.size < 2 ^ 62) : rdBy (textF (s.size : Int)) ⟨#[]⟩ (enc s.size ++ strNs s ++ rest) 0 = (s, rest, 0) := by
  have h := short_enc s.size (strNs s ++ rest) (by omega)
  rw [← List.append_assoc] at h
  have hl : (strNs s).length = s.size := strNs_length s
  have hd : (enc s.size ++ strNs s ++ rest).drop (enc s.size).length = strNs s ++ rest := by rw [List.append_assoc, List.drop_left]
  have ht : textF (s.size : Int) (enc s.size ++ strNs s ++ rest) = (s, (enc s.size).length + s.size, 0) := by
    unfold textF
    rw [h]
    simp only
    rw [if_neg (by omega), if_neg (by simp), if_neg (by omega), if_neg (by simp only [List.length_append, hl]; omega), hd]
    have e : (strNs s ++ rest).take s.size = strNs s := by rw [← hl, List.take_left]
    rw [e, toBA_strNs]
  unfold rdBy
  rw [if_neg (by simp), ht]
  simp only
  rw [if_neg (by simp)]
  have e2 : (enc s.size ++ strNs s ++ rest).drop ((enc s.size).length + s.size) = rest := by
    rw [← hl, ← List.length_append, List.drop_left]
  rw [e2]
theorem pow_fit (n X : Nat) (h : (n : Int) / 2 ^ (8 * (X : Int)).toNat = 0) : n < 256 ^ X := by
  have e : (8 * (X : Int)).toNat = 8 * X := by omega
  rw [e] at h
  rw [pow256]
  have h2 : ((n / 2 ^ (8 * X) : Nat) : Int) = 0 := by rw [← h]; simp
  have h3 : n / 2 ^ (8 * X) = 0 := by omega
  exact (Nat.div_eq_zero_iff.1 h3).resolve_left (by have := Nat.two_pow_pos (8 * X); omega)
theorem back_fix (v : OpV) (rest : List Nat) (hv : v.ok) (hk : v.k = 1) (ho : opOK v) : rdBy (fixF v.width) 0 (leB v.width.toNat v.n.toNat ++ rest) 0 = (v.n.toNat, rest, 0) := by
  obtain ⟨h1, h8, hf⟩ := ho hk
  obtain ⟨X, hX⟩ := Int.eq_ofNat_of_zero_le (show 0 ≤ v.width by omega)
  obtain ⟨N, hN⟩ := Int.eq_ofNat_of_zero_le hv.n0
  rw [hX, hN] at hf
  have hfit := pow_fit N X hf
  have hl : (leB X N).length = X := leB_length X N
  have ht : fixF (X : Int) (leB X N ++ rest) = (N, X, 0) := by
    unfold fixF
    rw [if_neg (by omega), if_neg (by rw [List.length_append, hl]; omega), Int.toNat_natCast]
    have e : (leB X N ++ rest).take X = leB X N := List.take_left' hl
    rw [e, leN_leB X N hfit]
  rw [hX, hN, Int.toNat_natCast, Int.toNat_natCast]
  unfold rdBy
  rw [if_neg (by simp), ht]
  simp only
  rw [if_neg (by simp)]
  have e2 : (leB X N ++ rest).drop X = rest := List.drop_left' hl
  rw [e2]

/-- The list of what was put: a row of the law's own. -/
theorem owns_type {w : World} {e e' : TypeId} {size : Nat} {v : Value} {n : Nat} {xs : List Value} (h : w.ownsRow 0 e size v n xs) {k : Nat} {cs : Array Value} {f : Nat × Nat} (hk : w.heap[k]? = some (.cells cs e' f)) (hne : e ≠ e') : v.ownBlock ≠ some k := by
  intro hv
  rcases h.2 with ⟨rfl, _⟩ | ⟨g', cap, cur, rfl, _, hg, _⟩
  · simp [Value.ownBlock] at hv
  · simp [Value.ownBlock] at hv
    subst hv
    rw [hg] at hk
    simp at hk
    exact hne hk.2.1
theorem Wr.rowAt {w : World} {g : Nat} {v : Value} {xs : List Nat} (h : Wr w g v xs) {k : Nat} (hk : v.ownBlock = some k) : ∃ cs, w.heap[k]? = some (.cells cs 5 (0, 0)) := by
  rcases h.row.2 with ⟨rfl, _⟩ | ⟨g', cap, cur, rfl, _, hg, _⟩
  · simp [Value.ownBlock] at hk
  · simp [Value.ownBlock] at hk
    subst hk
    exact ⟨_, hg⟩
/-- The list of operations and a writer do not touch. -/
theorem ops_apart {w : World} {size n : Nat} {v4 : Value} {cs : List Value} (h : w.ownsRow 0 37 size v4 n cs) {g : Nat} {v : Value} {xs : List Nat} (hW : Wr w g v xs) : ∀ k, v4.ownBlock = some k → k ∉ Wr.own g v := by
  intro k hk hx
  simp only [Wr.own, List.mem_cons, Option.mem_toList] at hx
  rcases hx with rfl | hx
  · exact owns_type h hW.box (by decide) hk
  · obtain ⟨cs', hc⟩ := hW.rowAt hx
    exact owns_type h hc (by decide) hk
theorem wr_apart {w : World} {size n : Nat} {v4 : Value} {cs : List Value} (h : w.ownsRow 0 37 size v4 n cs) {g : Nat} {v : Value} {xs : List Nat} (hW : Wr w g v xs) : (∀ k, v4.ownBlock = some k → k ≠ g) ∧ ∀ k k', v.ownBlock = some k → v4.ownBlock = some k' → k' ≠ k := by
  have h0 := ops_apart h hW
  refine ⟨fun k hk e => h0 k hk (by simp [Wr.own, e]), fun k k' hk hk' e => h0 k' hk' (by simp [Wr.own, e, hk])⟩
theorem total_len (a : List OpV) : a.length * 10 ≤ total a := by
  induction a with
  | nil => simp [total]
  | cons v r ih => simp only [total, List.length_cons]; omega
theorem five {w : World} {b : Nat} {a0 a1 a2 a3 a4 : Value} {t : TypeId} (h : w.heap[b]? = some (.cells #[a0, a1, a2, a3, a4] t (0, 0))) :
    w.cell? ⟨b, 0, none⟩ = some a0 ∧ w.cell? ⟨b, 1, none⟩ = some a1 ∧ w.cell? ⟨b, 2, none⟩ = some a2 ∧ w.cell? ⟨b, 3, none⟩ = some a3 ∧ w.cell? ⟨b, 4, none⟩ = some a4 := by
  simp [World.cell?, h]
theorem ob_apart {w : World} {b : Nat} {cs : Array Value} (h : w.heap[b]? = some (.cells cs 37 (0, 0))) {g : Nat} {v : Value} {xs : List Nat} (hW : Wr w g v xs) : b ∉ Wr.own g v := by
  intro hx
  simp only [Wr.own, List.mem_cons, Option.mem_toList] at hx
  rcases hx with rfl | hx
  · have := hW.box; rw [h] at this; simp at this
  · obtain ⟨cs', hc⟩ := hW.rowAt hx
    rw [h] at hc; simp at hc
theorem opC_cells {w : World} {b : Nat} {v : OpV} (h : w.heap[b]? = some (.cells #[.int .u8 v.k, .int .u64 v.n, .int .i64 v.width, .string v.text, .int .i64 v.most] 37 (0, 0))) :
    ∀ j u, (opC v)[j]? = some u → w.cell? ((⟨b, 0, none⟩ : Addr).add j) = some u := by
  intro j u hj
  rw [Addr.add_lit, cell_of_row _ _ _ _ _ _ h, Nat.zero_add]
  simpa [opC] using hj
theorem opC_one (v : OpV) : ∀ u ∈ opC v, u.oneCell' = true := by
  intro u hu
  simp only [opC, List.mem_cons, List.not_mem_nil, or_false] at hu
  rcases hu with rfl | rfl | rfl | rfl | rfl <;> rfl

theorem put_step {w wa w9 : World} {g : Nat} {vw v9 : Value} {xs ys : List Nat} {vp : Value} {n : Nat} {cs : List Value} {ob : Nat} {C : Array Value} (hWa : WB w wa g vw xs) (hPa : wa.ownsRow 0 37 5 vp n cs) (hoa : wa.heap[ob]? = some (.cells C 37 (0, 0)))
    (hw9 : Wr w9 g v9 ys) (hF9 : Fr (Wr.own g vw) wa w9) (hM9 : Moved wa.heap.size vw v9) : WB w w9 g v9 ys ∧ w9.ownsRow 0 37 5 vp n cs ∧ w9.heap[ob]? = some (.cells C 37 (0, 0)) :=
  ⟨hWa.next hw9 hF9 hM9, owns_keep hPa hF9 (ops_apart hPa hWa.wr), hF9.keep hoa (ob_apart hoa hWa.wr)⟩
theorem app_step {w w9 w10 : World} {g : Nat} {v9 : Value} {ys : List Nat} {vp vp' : Value} {n : Nat} {cs : List Value} {o : Obj} {k : Nat} (hW9 : WB w w9 g v9 ys) (hP9 : w9.ownsRow 0 37 5 vp n cs) (hb : ∀ k, vp.ownBlock = some k → w.heap.size ≤ k)
    (hg : (w9.alloc o).grownBy w10 vp.ownBlock) (hm : Moved k vp vp') (hk : w9.heap.size ≤ k) : WB w w10 g v9 ys ∧ (∀ k, vp'.ownBlock = some k → w.heap.size ≤ k) := by
  have hWa := hW9.quiet (Fr.alloc [] w9 o)
  have hPa := hP9.alloc o
  have hF : Fr vp.ownBlock.toList (w9.alloc o) w10 := Fr.grown hg (by intro k hk _; simp [hk])
  have hap := ops_apart hPa hWa.wr
  refine ⟨hWa.keep hF (by intro x hx; simp at hx; exact hb x hx) ?_ ?_, hm.lt (by have := hW9.fr.size; omega) hb⟩
  · intro hx
    simp at hx
    exact hap g hx (by simp [Wr.own])
  · intro k hk hx
    simp at hx
    exact hap k hx (by simp [Wr.own, hk])
theorem total_snoc_le {ps : List OpV} {v : OpV} {os : List OpV} {i : Nat} (h : total ps ≤ total (os.take i)) (hT : total (os.take (i + 1)) = total (os.take i) + 10 + v.text.size) : total (ps ++ [v]) ≤ total (os.take (i + 1)) := by
  rw [total_snoc]; omega
theorem done_src (g : Nat) (v : Value) (xs : List Nat) (w : World) (h : Wr w g v xs) (hlen : xs.length < 2^41) :
    Calls Try.prog 24 #[.pointer (some ⟨g, 0, none⟩)] w fun e w' => ∃ ao L cap, e = .returned (.slice ao L cap) ∧ L = xs.length ∧ (0 < L → ∃ a, ao = some a ∧ ∀ j u, (bts xs)[j]? = some u → w'.cell? (a.add j) = some u) ∧ Fr [] w w' := by
  by_cases h0 : 0 < xs.length
  · refine (done_some g v xs w h h0 hlen).mono ?_
    rintro e w' ⟨rfl, hrow, hF⟩
    exact ⟨_, _, _, rfl, rfl, fun _ => ⟨_, rfl, row_src hrow⟩, hF⟩
  · have : xs = [] := List.eq_nil_of_length_eq_zero (by omega)
    subst this
    refine (done_none g v w h).mono ?_
    rintro e w' ⟨rfl, rfl⟩
    exact ⟨none, 0, 0, rfl, rfl, fun h => by omega, Fr.refl _ _⟩
end Go.Proofs.Ytcajoihfdeoikaa
