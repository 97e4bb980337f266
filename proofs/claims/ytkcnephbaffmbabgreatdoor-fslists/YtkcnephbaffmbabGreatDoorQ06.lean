/-
  Paths as plain lists of octets: the parts between slashes, texts with a slash ahead of each; and that one leads to the other.
-/
import Derived.Test.YtkcnephbaffmbabGreatDoorQ05
namespace Go.Proofs.YtkcnephbaffmbabGreatDoor.P
def flush (cur : List UInt8) : List (List UInt8) := if cur = [] then [] else [cur]
def prtsGo : List UInt8 → List UInt8 → List (List UInt8)
  | [], cur => flush cur
  | c :: r, cur => if c = 47 then flush cur ++ prtsGo r [] else prtsGo r (cur ++ [c])
def prts (s : List UInt8) : List (List UInt8) := prtsGo s []
theorem flush_ne {c : List UInt8} (h : c ≠ []) : flush c = [c] := if_neg h
theorem prtsGo_plain {a : List UInt8} (ha : (47 : UInt8) ∉ a) (cur : List UInt8) : prtsGo a cur = flush (cur ++ a) := by
  induction a generalizing cur with
  | nil => simp [prtsGo]
  | cons c r ih =>
    have hc : c ≠ 47 := fun e => ha (by rw [e]; exact List.mem_cons_self ..)
    rw [prtsGo, if_neg hc, ih (fun h => ha (List.mem_cons_of_mem _ h))]
    simp
theorem prtsGo_slash {a : List UInt8} (ha : (47 : UInt8) ∉ a) (r cur : List UInt8) : prtsGo (a ++ 47 :: r) cur = flush (cur ++ a) ++ prts r := by
  induction a generalizing cur with
  | nil => simp [prtsGo, prts]
  | cons c t ih =>
    have hc : c ≠ 47 := fun e => ha (by rw [e]; exact List.mem_cons_self ..)
    rw [List.cons_append, prtsGo, if_neg hc, ih (fun h => ha (List.mem_cons_of_mem _ h))]
    simp
theorem prts_plain {a : List UInt8} (ha : (47 : UInt8) ∉ a) : prts a = flush a := by rw [prts, prtsGo_plain ha]; rfl
theorem prts_slash {a : List UInt8} (ha : (47 : UInt8) ∉ a) (r : List UInt8) : prts (a ++ 47 :: r) = flush a ++ prts r := by rw [prts, prtsGo_slash ha]; rfl
theorem prtsGo_snoc_slash (a cur : List UInt8) : ∀ r, prtsGo (a ++ 47 :: r) cur = prtsGo a cur ++ prts r := by
  induction a generalizing cur with
  | nil => intro r; simp [prtsGo, prts]
  | cons c t ih =>
    intro r
    rw [List.cons_append, prtsGo, prtsGo]
    split
    · rw [ih]; simp
    · rw [ih]
theorem prts_snoc_slash (a : List UInt8) (r : List UInt8) : prts (a ++ 47 :: r) = prts a ++ prts r := prtsGo_snoc_slash a [] r
theorem prtsGo_count (a cur : List UInt8) : (prtsGo a cur).length ≤ a.length + cur.length := by
  induction a generalizing cur with
  | nil =>
    rw [prtsGo, flush]
    split
    · simp
    · rename_i h
      have := List.length_pos_iff.2 h
      simp; omega
  | cons c r ih =>
    rw [prtsGo]
    split
    · have := ih []
      rw [flush]
      split
      · simp; simp at this; omega
      · rename_i h
        have h2 := List.length_pos_iff.2 h
        simp; simp at this; omega
    · have := ih (cur ++ [c])
      simp at this ⊢
      omega
theorem prts_count (a : List UInt8) : (prts a).length ≤ a.length := by have := prtsGo_count a []; simpa [prts] using this
end Go.Proofs.YtkcnephbaffmbabGreatDoor.P
