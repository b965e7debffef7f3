/- Transactions as bytes, as plain functions on lists. Plain lemmas. -/
import Derived.Test.YtcgfadmhjfncoaaGreatDoorSame
namespace Go.Proofs.YtcgfadmhjfncoaaGreatDoor
open Go.ChangeShapes Go.WideShapes Go.ChangeAt Go.RowKit Go.Lib

/-- A write. -/
structure Wt where
  key : ByteArray
  val : ByteArray
  drop : Bool

def noS : ByteArray := ⟨#[]⟩
theorem noS_iff (s : ByteArray) : s.size = 0 ↔ s = noS := by
  constructor
  · intro h
    cases s with
    | mk d =>
      have hd : d.size = 0 := h
      have : d = #[] := Array.eq_empty_of_size_eq_zero hd
      rw [this]
      rfl
  · rintro rfl
    rfl

/-- May a write be? -/
def okW (x : Wt) : Prop := 1 ≤ x.key.size ∧ x.key.size ≤ 64 ∧ x.val.size ≤ 1024 ∧ (x.drop = true → x.val = noS)
/-- May a transaction be? -/
def okT (n : Int) (ws : List Wt) : Prop := 1 ≤ n ∧ n ≤ 65536 ∧ ws.length ≤ 32 ∧ ∀ x ∈ ws, okW x

def encS (s : ByteArray) : List Nat := enc s.size ++ strNs s
def encV (x : Wt) : List Nat := if x.drop then [1] else 0 :: encS x.val
def encW (x : Wt) : List Nat := encS x.key ++ encV x
def encWs : List Wt → List Nat
  | [] => []
  | x :: r => encW x ++ encWs r
def encT (n : Nat) (ws : List Wt) : List Nat := enc n ++ (enc ws.length ++ encWs ws)

theorem encWs_snoc (ws : List Wt) (x : Wt) : encWs (ws ++ [x]) = encWs ws ++ encW x := by
  induction ws with
  | nil => simp [encWs]
  | cons y r ih => simp [encWs, ih]
theorem encS_lt (s : ByteArray) : ∀ x ∈ encS s, x < 256 := by
  intro x hx
  rcases List.mem_append.1 hx with h | h
  · exact enc_lt _ x h
  · exact strNs_lt s x h
theorem encW_lt (y : Wt) : ∀ x ∈ encW y, x < 256 := by
  intro x hx
  rcases List.mem_append.1 hx with h | h
  · exact encS_lt _ x h
  · unfold encV at h
    split at h
    · simp at h; omega
    · rcases List.mem_cons.1 h with rfl | h
      · omega
      · exact encS_lt _ x h
theorem encWs_lt (ws : List Wt) : ∀ x ∈ encWs ws, x < 256 := by
  induction ws with
  | nil => intro x hx; simp [encWs] at hx
  | cons y r ih =>
    intro x hx
    rcases List.mem_append.1 hx with h | h
    · exact encW_lt y x h
    · exact ih x h
theorem encT_lt (n : Nat) (ws : List Wt) : ∀ x ∈ encT n ws, x < 256 := by
  intro x hx
  rcases List.mem_append.1 hx with h | h
  · exact enc_lt _ x h
  · rcases List.mem_append.1 h with h | h
    · exact enc_lt _ x h
    · exact encWs_lt ws x h
theorem encS_length (s : ByteArray) : 1 ≤ (encS s).length ∧ (encS s).length ≤ 10 + s.size := by
  have := enc_length s.size
  simp only [encS, List.length_append, strNs_length]
  omega
theorem encW_length (x : Wt) (h : okW x) : 1 ≤ (encW x).length ∧ (encW x).length ≤ 2000 := by
  obtain ⟨h1, h2, h3, _⟩ := h
  have a := encS_length x.key
  have b := encS_length x.val
  simp only [encW, List.length_append, encV]
  split
  · simp only [List.length_cons, List.length_nil]; omega
  · simp only [List.length_cons]; omega
theorem encWs_length (ws : List Wt) (h : ∀ x ∈ ws, okW x) : (encWs ws).length ≤ 2000 * ws.length := by
  induction ws with
  | nil => simp [encWs]
  | cons y r ih =>
    have a := (encW_length y (h y (by simp))).2
    have b := ih (fun x hx => h x (by simp [hx]))
    simp only [encWs, List.length_append, List.length_cons]
    omega
theorem encT_length (n : Nat) (ws : List Wt) (h : okT (n : Int) ws) : 2 ≤ (encT n ws).length ∧ (encT n ws).length ≤ 65000 := by
  have a := enc_length n
  have b := enc_length ws.length
  have c := encWs_length ws h.2.2.2
  have d := h.2.2.1
  simp only [encT, List.length_append]
  omega

end Go.Proofs.YtcgfadmhjfncoaaGreatDoor
