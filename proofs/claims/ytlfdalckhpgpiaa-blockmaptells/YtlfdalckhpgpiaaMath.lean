/-
  The layer as plain mathematics: the way to a block and back, how many blocks there are, which ones octets lie in.
-/
import Derived.Test.YtlfdalckhpgpiaaInts
namespace Go.Proofs.Ytlfdalckhpgpiaa

def pathE (x : Int) : Int := if 0 ≤ x ∧ x < 76 then 0 else 4
def pathL (x : Int) : List Int := if 0 ≤ x ∧ x < 76 then (if x < 4 then [x] else if x < 12 then [4, x - 4] else [5, (x - 12) / 8, (x - 12) % 8]) else []

def idx : List Int → Option Int
  | [a] => if 0 ≤ a ∧ a < 4 then some a else none
  | [a, b] => if a = 4 ∧ 0 ≤ b ∧ b < 8 then some (4 + b) else none
  | [a, b, c] => if a = 5 ∧ (0 ≤ b ∧ b < 8) ∧ 0 ≤ c ∧ c < 8 then some (12 + b * 8 + c) else none
  | _ => none
def idxV (l : List Int) : Int := (idx l).getD 0
def idxE (l : List Int) : Int := if (idx l).isSome then 0 else 4

theorem idx_path {x : Int} (h : 0 ≤ x ∧ x < 76) : idx (pathL x) = some x := by
  unfold pathL
  rw [if_pos h]
  split
  · simp [idx]; omega
  · split
    · simp [idx]; omega
    · simp [idx]; omega
theorem path_idx {l : List Int} {x : Int} (h : idx l = some x) : (0 ≤ x ∧ x < 76) ∧ pathL x = l := by
  match l, h with
  | [a], h =>
    simp [idx] at h
    obtain ⟨h1, rfl⟩ := h
    refine ⟨by omega, ?_⟩
    unfold pathL
    rw [if_pos (by omega), if_pos (by omega)]
  | [a, b], h =>
    simp [idx] at h
    obtain ⟨h1, rfl⟩ := h
    refine ⟨by omega, ?_⟩
    unfold pathL
    rw [if_pos (by omega), if_neg (by omega), if_pos (by omega), h1.1]
    congr 2
    omega
  | [a, b, c], h =>
    simp [idx] at h
    obtain ⟨h1, rfl⟩ := h
    refine ⟨by omega, ?_⟩
    unfold pathL
    rw [if_pos (by omega), if_neg (by omega), if_neg (by omega), h1.1, show (12 + b * 8 + c - 12) / 8 = b by omega, show (12 + b * 8 + c - 12) % 8 = c by omega]
  | [], h => simp [idx] at h
  | _ :: _ :: _ :: _ :: _, h => simp [idx] at h
theorem path_inj {x y : Int} (hx : 0 ≤ x ∧ x < 76) (hy : 0 ≤ y ∧ y < 76) : pathL x = pathL y ↔ x = y := by
  refine ⟨fun h => ?_, fun h => by rw [h]⟩
  have := idx_path hx
  rw [h, idx_path hy] at this
  simpa using this.symm
theorem path_in (x : Int) : ∀ y ∈ pathL x, I64 y := by
  unfold pathL I64
  intro y hy
  split at hy
  · split at hy
    · simp at hy; omega
    · split at hy
      · simp at hy; omega
      · simp at hy; omega
  · simp at hy
theorem path_len (x : Int) : (pathL x).length ≤ 3 := by
  unfold pathL
  split
  · split
    · simp
    · split <;> simp
  · simp

/-- How many blocks hold so many octets, and how many indirect ones lead to them. -/
def blkN (s : Int) : Int := (s + 31) / 32
def indM (n : Int) : Int := if 12 < n then 2 + (n - 5) / 8 else if 4 < n then 1 else 0
def blkE (s : Int) : Int := if s < 0 then 4 else if 2432 < s then 107 else 0
def blkV (s : Int) : Int := if 0 ≤ s ∧ s ≤ 2432 then blkN s else 0
def blkM (s : Int) : Int := if 0 ≤ s ∧ s ≤ 2432 then indM (blkN s) else 0

def spnE (o n : Int) : Int := if o < 0 ∨ n < 0 then 4 else if 2432 < o + n then 107 else 0
def spnF (o n : Int) : Int := if spnE o n = 0 then o / 32 else 0
def spnK (o n : Int) : Int := if spnE o n = 0 then (if n = 0 then 0 else (o + n + 31) / 32 - o / 32) else 0

end Go.Proofs.Ytlfdalckhpgpiaa
