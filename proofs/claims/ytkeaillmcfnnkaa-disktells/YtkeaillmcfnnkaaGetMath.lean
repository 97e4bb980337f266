/-
  Plain mathematics: octets of rows of 64 laid one behind another; what a copy of a row over its place makes of them.
-/
import Derived.Test.YtkeaillmcfnnkaaSettle
namespace Go.Proofs.Ytkeaillmcfnnkaa
open Go.RowKit

def all64 (ls : List (List Int)) : Prop := ∀ l ∈ ls, l.length = 64

theorem flatten_length64 : ∀ (ls : List (List Int)), all64 ls → ls.flatten.length = 64 * ls.length
  | [], _ => rfl
  | l :: ls, h => by
    have h1 := h l (List.mem_cons_self ..)
    have h2 := flatten_length64 ls (fun x hx => h x (List.mem_cons_of_mem _ hx))
    rw [List.flatten_cons, List.length_append, h1, h2, List.length_cons]; omega

theorem splice_shift (a b l : List Int) (off : Nat) : splice (a ++ b) (a.length + off) l = a ++ splice b off l := by
  unfold splice
  rw [List.take_append, List.take_of_length_le (by omega), show a.length + off - a.length = off by omega, Nat.add_assoc, List.drop_append, List.drop_of_length_le (by omega), show a.length + (off + l.length) - a.length = off + l.length by omega]
  simp

theorem splice_head (a b l : List Int) (h : a.length = l.length) : splice (a ++ b) 0 l = l ++ b := by
  unfold splice
  rw [List.take_zero, List.nil_append, Nat.zero_add, ← h, List.drop_left]

theorem flatten_set (l : List Int) (hl : l.length = 64) : ∀ (ls : List (List Int)) (j : Nat), all64 ls → j < ls.length → (ls.set j l).flatten = splice ls.flatten (64 * j) l
  | [], j, _, h => by simp at h
  | x :: ls, 0, h, _ => by
    rw [List.set_cons_zero, List.flatten_cons, List.flatten_cons, Nat.mul_zero, splice_head _ _ _ (by rw [h x (List.mem_cons_self ..), hl])]
  | x :: ls, j + 1, h, hj => by
    have hx := h x (List.mem_cons_self ..)
    have ih := flatten_set l hl ls j (fun y hy => h y (List.mem_cons_of_mem _ hy)) (by simpa using hj)
    rw [List.set_cons_succ, List.flatten_cons, List.flatten_cons, ih, show 64 * (j + 1) = x.length + 64 * j by rw [hx]; omega, splice_shift]

/-- So many rows, from one on, one behind another. -/
def window (rows : List (List Int)) (s k : Nat) : List Int := ((rows.drop s).take k).flatten

theorem all64_window {rows : List (List Int)} (h : all64 rows) (s k : Nat) : all64 ((rows.drop s).take k) := fun l hl => h l (List.mem_of_mem_drop (List.mem_of_mem_take hl))
theorem window_length (rows : List (List Int)) (s k : Nat) (h : all64 rows) (hs : s + k ≤ rows.length) : (window rows s k).length = 64 * k := by
  rw [window, flatten_length64 _ (all64_window h s k), List.length_take, List.length_drop]; omega

theorem window_out (rows : List (List Int)) (s k i : Nat) (l : List Int) (h : i < s ∨ s + k ≤ i) : window (rows.set i l) s k = window rows s k := by
  unfold window
  congr 1
  apply List.ext_getElem?
  intro j
  rw [List.getElem?_take, List.getElem?_take]
  split
  · rw [List.getElem?_drop, List.getElem?_drop, List.getElem?_set_ne (by omega)]
  · rfl

theorem window_in (rows : List (List Int)) (s k i : Nat) (l : List Int) (hr : all64 rows) (hl : l.length = 64) (hs : s + k ≤ rows.length) (h1 : s ≤ i) (h2 : i < s + k) : window (rows.set i l) s k = splice (window rows s k) (64 * (i - s)) l := by
  unfold window
  rw [← flatten_set l hl _ _ (all64_window hr s k) (by rw [List.length_take, List.length_drop]; omega)]
  congr 1
  apply List.ext_getElem?
  intro j
  by_cases e : i = s + j
  · subst e
    rw [show s + j - s = j by omega, List.getElem?_set_self (by rw [List.length_take, List.length_drop]; omega), List.getElem?_take, if_pos (by omega), List.getElem?_drop, List.getElem?_set_self (by omega)]
  · rw [List.getElem?_set_ne (show i - s ≠ j by omega), List.getElem?_take, List.getElem?_take]
    split
    · rw [List.getElem?_drop, List.getElem?_drop, List.getElem?_set_ne (by omega)]
    · rfl

theorem all64_fill : ∀ (ps : List (Nat × List Int)) (init : List (List Int)), all64 init → (∀ p ∈ ps, p.2.length = 64) → all64 (fill init ps)
  | [], _, h, _ => h
  | p :: ps, init, h, hp => by
    refine all64_fill ps (init.set p.1 p.2) (fun l hl => ?_) (fun q hq => hp q (List.mem_cons_of_mem _ hq))
    rcases List.mem_or_eq_of_mem_set hl with h1 | h1
    · exact h l h1
    · rw [h1]; exact hp p (List.mem_cons_self ..)
theorem all64_zeros (n : Nat) : all64 (List.replicate n zeros) := fun l hl => by rw [(List.mem_replicate.1 hl).2]; simp [zeros]

theorem window_zeros (n s k : Nat) (h : s + k ≤ n) : window (List.replicate n zeros) s k = List.replicate (64 * k) 0 := by
  unfold window
  rw [List.drop_replicate, List.take_replicate, Nat.min_eq_left (by omega), zeros, List.flatten_replicate_replicate, Nat.mul_comm]

theorem oct_splice {a b : List Int} {off : Nat} (ha : Oct a) (hb : Oct b) : Oct (splice a off b) := by
  intro x hx
  unfold splice at hx
  rcases List.mem_append.1 hx with h | h
  · exact ha x (List.mem_of_mem_take h)
  · rcases List.mem_append.1 h with h | h
    · exact hb x h
    · exact ha x (List.mem_of_mem_drop h)

theorem splice_map (a b : List Int) (off : Nat) (f : Int → Value) : splice (a.map f) off (b.map f) = (splice a off b).map f := by
  simp [splice, List.map_take, List.map_drop]

end Go.Proofs.Ytkeaillmcfnnkaa
