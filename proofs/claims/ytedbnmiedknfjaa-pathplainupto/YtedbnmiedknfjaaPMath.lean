/-
  Paths as plain lists of octets: the parts between slashes, texts with a slash ahead of each; and that one leads to the other.
-/
import Derived.Test.YtedbnmiedknfjaaText
namespace Go.Proofs.Ytedbnmiedknfjaa

/-- One part, if it is not empty. -/
def flush (cur : List UInt8) : List (List UInt8) := if cur = [] then [] else [cur]
/-- The parts between slashes, but the empty ones; cur: what has been read of the first. -/
def prtsGo : List UInt8 → List UInt8 → List (List UInt8)
  | [], cur => flush cur
  | c :: r, cur => if c = 47 then flush cur ++ prtsGo r [] else prtsGo r (cur ++ [c])
def prts (s : List UInt8) : List (List UInt8) := prtsGo s []

theorem flush_nil : flush [] = [] := rfl
theorem flush_ne {c : List UInt8} (h : c ≠ []) : flush c = [c] := if_neg h

theorem prtsGo_plain {a : List UInt8} (ha : (47 : UInt8) ∉ a) (cur : List UInt8) : prtsGo a cur = flush (cur ++ a) := by
  induction a generalizing cur with
  | nil => simp [prtsGo]
  | cons c r ih =>
    have hc : c ≠ 47 := fun e => ha (by rw [e]; exact List.mem_cons_self ..)
    rw [prtsGo, if_neg hc, ih (fun h => ha (List.mem_cons_of_mem _ h))]
    simp
theorem prtsGo_slash {a : List UInt8} (ha : (47 : UInt8) ∉ a) (r cur : List UInt8) : prtsGo (a ++ 47 :: r) cur = flush (cur ++ a) ++ prts r := by
  induction a generalizing cur with
  | nil => simp [prtsGo, prts]
  | cons c t ih =>
    have hc : c ≠ 47 := fun e => ha (by rw [e]; exact List.mem_cons_self ..)
    rw [List.cons_append, prtsGo, if_neg hc, ih (fun h => ha (List.mem_cons_of_mem _ h))]
    simp
theorem prts_plain {a : List UInt8} (ha : (47 : UInt8) ∉ a) : prts a = flush a := by rw [prts, prtsGo_plain ha]; rfl
theorem prts_slash {a : List UInt8} (ha : (47 : UInt8) ∉ a) (r : List UInt8) : prts (a ++ 47 :: r) = flush a ++ prts r := by rw [prts, prtsGo_slash ha]; rfl
theorem prts_first (r : List UInt8) : prts (47 :: r) = prts r := by
  have := prts_slash (a := []) (by simp) r
  simpa [flush] using this

/-- What was read up to a place, and what comes behind it. -/
theorem prtsGo_snoc_slash (a cur : List UInt8) : ∀ r, prtsGo (a ++ 47 :: r) cur = prtsGo a cur ++ prts r := by
  induction a generalizing cur with
  | nil => intro r; simp [prtsGo, prts]
  | cons c t ih =>
    intro r
    rw [List.cons_append, prtsGo, prtsGo]
    split
    · rw [ih]; simp
    · rw [ih]
theorem prts_snoc_slash (a : List UInt8) (r : List UInt8) : prts (a ++ 47 :: r) = prts a ++ prts r := prtsGo_snoc_slash a [] r
theorem prts_end (a : List UInt8) : prts (a ++ [47]) = prts a := by
  rw [prts_snoc_slash]; simp [prts, prtsGo, flush]

/-- The parts have no slash, and are not empty. -/
theorem prtsGo_mem {a cur : List UInt8} (hc : (47 : UInt8) ∉ cur) : ∀ x ∈ prtsGo a cur, (47 : UInt8) ∉ x ∧ x ≠ [] := by
  induction a generalizing cur with
  | nil =>
    intro x hx
    rw [prtsGo, flush] at hx
    split at hx
    · cases hx
    · rename_i h
      rw [List.mem_singleton.1 hx]
      exact ⟨hc, h⟩
  | cons c r ih =>
    intro x hx
    rw [prtsGo] at hx
    split at hx
    · rcases List.mem_append.1 hx with h | h
      · rw [flush] at h
        split at h
        · cases h
        · rename_i h'
          rw [List.mem_singleton.1 h]
          exact ⟨hc, h'⟩
      · exact ih (cur := []) (by simp) x h
    · rename_i h
      exact ih (cur := cur ++ [c]) (by simp [hc]; exact fun e => h e.symm) x hx
theorem prts_mem {a : List UInt8} : ∀ x ∈ prts a, (47 : UInt8) ∉ x ∧ x ≠ [] := prtsGo_mem (by simp)

/-- Each name with a slash ahead of it. -/
def jl (l : List (List UInt8)) : List UInt8 := (l.map (fun x => 47 :: x)).flatten
/-- The path of names. -/
def jp (l : List (List UInt8)) : List UInt8 := if l = [] then [47] else jl l
theorem jl_nil : jl [] = [] := rfl
theorem jl_snoc (l : List (List UInt8)) (x : List UInt8) : jl (l ++ [x]) = jl l ++ 47 :: x := by simp [jl]
theorem jl_cons (l : List (List UInt8)) (x : List UInt8) : jl (x :: l) = 47 :: x ++ jl l := by simp [jl]
theorem jl_length_take (l : List (List UInt8)) (k : Nat) : (jl (l.take k)).length ≤ (jl l).length := by
  induction l generalizing k with
  | nil => simp
  | cons x r ih =>
    cases k with
    | zero => simp [jl]
    | succ k =>
      have := ih k
      rw [List.take_succ_cons, jl_cons, jl_cons]
      simp
      omega
theorem jp_head (l : List (List UInt8)) : ∃ r, jp l = 47 :: r := by
  cases l with
  | nil => exact ⟨[], rfl⟩
  | cons x r => exact ⟨x ++ jl r, by simp [jp, jl_cons]⟩

/-- The parts of a path of names are the names. -/
theorem prts_jl (l : List (List UInt8)) (h : ∀ x ∈ l, (47 : UInt8) ∉ x ∧ x ≠ []) : prts (jl l) = l := by
  induction l with
  | nil => rfl
  | cons x r ih =>
    have hx := h x (List.mem_cons_self ..)
    have ih := ih fun y hy => h y (List.mem_cons_of_mem _ hy)
    rw [jl_cons, List.cons_append, prts_first]
    cases r with
    | nil => rw [jl_nil, List.append_nil, prts_plain hx.1, flush_ne hx.2]
    | cons y t =>
      rw [jl_cons, List.cons_append, prts_slash hx.1, flush_ne hx.2]
      rw [jl_cons, List.cons_append, prts_first] at ih
      rw [ih]; rfl
theorem prts_jp (l : List (List UInt8)) (h : ∀ x ∈ l, (47 : UInt8) ∉ x ∧ x ≠ []) : prts (jp l) = l := by
  rw [jp]
  split
  · rename_i e; rw [e]; rfl
  · exact prts_jl l h

/-- The parts, each with a slash ahead, are no longer than the text and one more; with a slash ahead of all no longer than the text. -/
theorem jl_prtsGo (a cur : List UInt8) : (jl (prtsGo a cur)).length ≤ a.length + cur.length + 1 := by
  induction a generalizing cur with
  | nil =>
    rw [prtsGo, flush]
    split <;> simp [jl]
  | cons c r ih =>
    rw [prtsGo]
    split
    · have := ih []
      rw [flush]
      split
      · simp; simp at this; omega
      · simp [jl_cons]; simp at this; omega
    · have := ih (cur ++ [c])
      simp at this ⊢
      omega
theorem jl_prts_slash (r : List UInt8) : (jl (prts (47 :: r))).length ≤ (47 :: r).length := by
  rw [prts_first]
  have := jl_prtsGo r []
  simp at this ⊢
  exact this
theorem jp_length (l : List (List UInt8)) : (jp l).length = max (jl l).length 1 := by
  rw [jp]
  split
  · rename_i h; subst h; rfl
  · rename_i h
    cases l with
    | nil => exact (h rfl).elim
    | cons x r => simp [jl_cons]

/-- How many parts: no more than octets. -/
theorem prtsGo_count (a cur : List UInt8) : (prtsGo a cur).length ≤ a.length + cur.length := by
  induction a generalizing cur with
  | nil =>
    rw [prtsGo, flush]
    split
    · simp
    · rename_i h
      have := List.length_pos_iff.2 h
      simp; omega
  | cons c r ih =>
    rw [prtsGo]
    split
    · have := ih []
      rw [flush]
      split
      · simp; simp at this; omega
      · rename_i h
        have h2 := List.length_pos_iff.2 h
        simp; simp at this; omega
    · have := ih (cur ++ [c])
      simp at this ⊢
      omega
theorem prts_count (a : List UInt8) : (prts a).length ≤ a.length := by have := prtsGo_count a []; simpa [prts] using this


end Go.Proofs.Ytedbnmiedknfjaa
