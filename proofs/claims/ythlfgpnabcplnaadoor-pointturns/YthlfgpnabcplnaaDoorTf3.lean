/-
  Plain mathematics: the number that octets say, the highest first; zeros ahead say nothing.
-/
import Derived.Laws.Bits64b
namespace Go.Proofs.YthlfgpnabcplnaaDoor.W.O

/-- The octets without the zeros ahead. -/
def dz (l : List Int) : List Int := l.dropWhile fun x => x == 0
/-- The number that octets say. -/
def nv (l : List Int) : Nat := l.foldl (fun n x => 256 * n + x.toNat) 0
def gerr (l : List Int) : Int := if 8 < (dz l).length then 107 else 0
def gval (l : List Int) : Int := if 8 < (dz l).length then 0 else (nv l : Int)

theorem fold_nv (l : List Int) : ∀ n, l.foldl (fun n x => 256 * n + x.toNat) n = n * 256 ^ l.length + nv l := by
  unfold nv
  induction l with
  | nil => intro n; simp
  | cons x l ih =>
    intro n
    rw [List.foldl_cons, ih, List.foldl_cons, ih (256 * 0 + x.toNat), List.length_cons, Nat.pow_succ, Nat.add_mul]
    rw [show 256 * n * 256 ^ l.length = n * (256 ^ l.length * 256) by rw [Nat.mul_comm 256 n, Nat.mul_assoc, Nat.mul_comm 256], show 256 * 0 + x.toNat = x.toNat by omega]
    omega

theorem nv_cons (x : Int) (l : List Int) : nv (x :: l) = x.toNat * 256 ^ l.length + nv l := by
  have := fold_nv l (256 * 0 + x.toNat)
  unfold nv at this ⊢
  rw [List.foldl_cons, this, show 256 * 0 + x.toNat = x.toNat by omega]

theorem nv_append (a b : List Int) : nv (a ++ b) = nv a * 256 ^ b.length + nv b := by
  unfold nv
  rw [List.foldl_append]
  exact fold_nv b _

theorem nv_lt (l : List Int) (hr : ∀ x ∈ l, 0 ≤ x ∧ x ≤ 255) : nv l < 256 ^ l.length := by
  induction l with
  | nil => simp [nv]
  | cons x l ih =>
    rw [nv_cons, List.length_cons, Nat.pow_succ]
    have h1 := ih fun y hy => hr y (List.mem_cons_of_mem _ hy)
    have h2 := hr x (List.mem_cons_self ..)
    have h3 : x.toNat ≤ 255 := by omega
    have := Nat.mul_le_mul_right (256 ^ l.length) h3
    omega

theorem dz_cons_zero (l : List Int) : dz (0 :: l) = dz l := by simp [dz]
theorem dz_cons_pos (x : Int) (l : List Int) (h : x ≠ 0) : dz (x :: l) = x :: l := by simp [dz, h]

theorem nv_dz (l : List Int) : nv (dz l) = nv l := by
  induction l with
  | nil => rfl
  | cons x l ih =>
    by_cases h : x = 0
    · subst h; rw [dz_cons_zero, ih, nv_cons]; simp
    · rw [dz_cons_pos x l h]

theorem dz_sub (l : List Int) : ∀ x ∈ dz l, x ∈ l := by
  induction l with
  | nil => intro x hx; exact hx
  | cons y l ih =>
    intro x hx
    by_cases h : y = 0
    · subst h; rw [dz_cons_zero] at hx; exact List.mem_cons_of_mem _ (ih x hx)
    · rwa [dz_cons_pos y l h] at hx

/-- Behind z zeros, where none stands any more: that is what is left. -/
theorem dz_drop : ∀ (z : Nat) (l : List Int), (∀ i, i < z → l.getD i 0 = 0) → z ≤ l.length → (z = l.length ∨ l.getD z 0 ≠ 0) → dz l = l.drop z
  | 0, l, _, _, h2 => by
    cases l with
    | nil => rfl
    | cons x l =>
      rcases h2 with h2 | h2
      · simp at h2
      · rw [dz_cons_pos x l (by simpa using h2)]; rfl
  | z + 1, l, h, h1, h2 => by
    cases l with
    | nil => simp at h1
    | cons x l =>
      have h0 := h 0 (by omega)
      simp at h0
      subst h0
      rw [dz_cons_zero, List.drop_succ_cons]
      refine dz_drop z l (fun i hi => ?_) (by simpa using h1) ?_
      · have := h (i + 1) (by omega); simpa using this
      · simpa using h2

theorem nv_take_succ (l : List Int) (k : Nat) (h : k < l.length) : nv (l.take (k + 1)) = 256 * nv (l.take k) + (l.getD k 0).toNat := by
  rw [List.take_succ_eq_append_getElem h, nv_append]
  simp [nv, List.getD, List.getElem?_eq_getElem h, Nat.mul_comm]

theorem nv_take_le (l : List Int) (k : Nat) : nv (l.take k) ≤ nv l := by
  have := nv_append (l.take k) (l.drop k)
  rw [List.take_append_drop] at this
  rw [this]
  have := Nat.le_mul_of_pos_right (nv (l.take k)) (Nat.pow_pos (n := (l.drop k).length) (show 0 < 256 by decide))
  omega

theorem nv_small (l : List Int) (hr : ∀ x ∈ l, 0 ≤ x ∧ x ≤ 255) (h : (dz l).length ≤ 8) : nv l < 18446744073709551616 := by
  rw [← nv_dz]
  have h1 := nv_lt (dz l) fun x hx => hr x (dz_sub l x hx)
  exact Nat.lt_of_lt_of_le h1 (by have := Nat.pow_le_pow_right (show 0 < 256 by decide) h; simpa using this)

theorem or_256 (a b : Nat) (hb : b < 256) (h : 256 * a + b < 18446744073709551616) : bits .or .u64 ((a : Int) * 256) (b : Int) = 256 * (a : Int) + b := by
  have := bits_or_u64_nat (a * 256) b (by omega) (by omega)
  rw [show ((a * 256 : Nat) : Int) = (a : Int) * 256 by omega] at this
  rw [this]
  have e : a * 256 ||| b = a * 256 + b := by
    have := Nat.shiftLeft_add_eq_or_of_lt (i := 8) (b := b) (by omega) a
    rw [Nat.shiftLeft_eq] at this
    exact this.symm
  rw [e]
  omega

end Go.Proofs.YthlfgpnabcplnaaDoor.W.O
