/-
  A file that grows from its end to its beginning; numbers in a list, as memory has them.
-/
import Derived.Test.YtgflfmpoeamnnaaLawMath
namespace Go.Proofs.Ytgflfmpoeamnnaa
open Go.RowKit

def intsS : Shape (List Int) := i64L.row 55 Try.underlying55 (by kernel_rfl)
theorem ints_at {n : Nat} {w : World} {v : Value} {l : List Int} (h : intsS.lies n w [v] l) (i : Nat) (x : Int) (hx : l[i]? = some x) : ∃ b o, (∀ W, (Instr.indexAt 55 v (.int .i64 i)).run Try.prog W = .ok (.pointer (some ⟨b, o, none⟩)) W) ∧ w.cell? ⟨b, o, none⟩ = some (.int .i64 x) ∧ I64 x := by
  obtain ⟨i0, hi0, _, hz, _⟩ := info_parts Try.info3
  obtain ⟨b, o, hix, _, hc, hk⟩ := Leaf.row_at (L := i64L) (ht := Try.underlying55) (hc := by kernel_rfl) h hi0 hz i x hx
  exact ⟨b, o, hix, hc, bounds_i64 hk⟩
theorem ints_len {n : Nat} {w : World} {us : List Value} {l : List Int} (h : intsS.lies n w us l) : ∃ a cap, us = [.slice a l.length cap] ∧ l.length ≤ cap ∧ l.length ≤ maxLen ∧ (a = none → l.length = 0) :=
  Leaf.row_len (L := i64L) (ht := Try.underlying55) (hc := by kernel_rfl) h

/-- The octets of D from k on, zeros ahead of them. -/
def bt (D : List Int) (k : Nat) : List Int := List.replicate k 0 ++ D.drop k
/-- The file behind the writes from k on. -/
def bf (D : List Int) (k : Nat) : Fl := if k = D.length then (0, []) else mk (bt D k)

theorem bt_length {D : List Int} {k : Nat} (h : k ≤ D.length) : (bt D k).length = D.length := by simp [bt]; omega
theorem bt_get {D : List Int} {k : Nat} (i : Nat) : oc (bt D k) i = if i < k then 0 else oc D i := by
  unfold oc bt
  simp only [List.getD_eq_getElem?_getD]
  by_cases hi : i < k
  · rw [if_pos hi, List.getElem?_append_left (by simpa using hi), List.getElem?_replicate, if_pos hi]
    rfl
  · rw [if_neg hi, List.getElem?_append_right (by simp; omega), List.length_replicate, List.getElem?_drop, show k + (i - k) = i by omega]
theorem bt_zero (D : List Int) : bt D 0 = D := by simp [bt]

theorem bf_chk {D : List Int} {k : Nat} (hD : D.length ≤ 2432) (hk : k ≤ D.length) : chk (bf D k) = true := by
  unfold bf
  split
  · exact chk_nil
  · exact chk_mk (by rw [bt_length hk]; exact hD)
theorem bf_txt {D : List Int} {k : Nat} (hD : D.length ≤ 2432) (hk : k ≤ D.length) : txt (bf D k) = if k = D.length then [] else bt D k := by
  unfold bf
  by_cases h : k = D.length
  · rw [if_pos h, if_pos h]; rfl
  · rw [if_neg h, if_neg h]
    exact txt_mk (by rw [bt_length hk]; exact hD)

theorem oc_part {D : List Int} {k j : Nat} (i : Nat) (hi : i < k - j) : oc ((D.take k).drop j) i = oc D (j + i) := by
  unfold oc
  simp only [List.getD_eq_getElem?_getD, List.getElem?_drop, List.getElem?_take]
  rw [if_pos (by omega)]

theorem bf_step {D : List Int} {j k : Nat} (hD : D.length ≤ 2432) (hjk : j < k) (hk : k ≤ D.length) :
    wrE (bf D k) (j : Int) ((D.take k).drop j) = 0 ∧ wrF (bf D k) (j : Int) ((D.take k).drop j) = bf D j := by
  have hl : ((D.take k).drop j).length = k - j := part_length _ _ _ hk
  have e1 : wrE (bf D k) (j : Int) ((D.take k).drop j) = 0 := by
    unfold wrE
    rw [if_neg (by rw [bf_chk hD hk]; simp), if_neg (by omega), if_neg (by rw [hl]; omega), if_neg (by rw [hl]; omega)]
  refine ⟨e1, ?_⟩
  unfold wrF
  rw [if_pos e1, Int.toNat_natCast]
  rw [show bf D j = mk (bt D j) from if_neg (by omega)]
  congr 1
  have hd0 : ((D.take k).drop j).length ≠ 0 := by rw [hl]; omega
  refine alike ?_ fun i hi => ?_
  · rw [wrT_length hd0, bf_txt hD hk, bt_length (by omega), hl]
    split
    · simp; omega
    · rw [bt_length hk]; omega
  · have e := wrT_get (t := txt (bf D k)) (p := j) hd0 i
    have e2 := bt_get (D := D) (k := j) i
    unfold oc at e e2
    rw [e, e2, hl, bf_txt hD hk]
    by_cases h1 : j ≤ i ∧ i < j + (k - j)
    · rw [if_pos h1, if_neg (by omega)]
      have := oc_part (D := D) (k := k) (j := j) (i - j) (by omega)
      rw [show j + (i - j) = i by omega] at this
      exact this
    · rw [if_neg h1]
      by_cases h2 : k = D.length
      · rw [if_pos h2]
        by_cases h3 : i < j
        · rw [if_pos h3]; rfl
        · rw [if_neg h3]
          have : oc D i = 0 := oc_out (by omega)
          unfold oc at this
          rw [this]; rfl
      · rw [if_neg h2]
        have e3 := bt_get (D := D) (k := k) i
        unfold oc at e3
        rw [e3]
        by_cases h3 : i < j
        · rw [if_pos h3, if_pos (by omega)]
        · rw [if_neg h3, if_neg (by omega)]

theorem bf_end {D : List Int} {k : Nat} (hD : D.length ≤ 2432) (hk : k ≤ D.length) : wrE (bf D k) 0 (D.take k) = 0 ∧ wrF (bf D k) 0 (D.take k) = mk D := by
  by_cases h0 : k = 0
  · subst h0
    have e1 : wrE (bf D 0) 0 (D.take 0) = 0 := by
      unfold wrE
      rw [if_neg (by rw [bf_chk hD hk]; simp), if_neg (by omega), if_pos (by simp)]
    refine ⟨e1, ?_⟩
    unfold wrF
    rw [if_pos e1, wrT_none _ (by simp), bf_txt hD hk]
    by_cases h2 : 0 = D.length
    · rw [if_pos h2, List.eq_nil_of_length_eq_zero h2.symm]
    · rw [if_neg h2, bt_zero]
  · have := bf_step (j := 0) hD (by omega) hk
    rw [List.drop_zero] at this
    refine ⟨this.1, this.2.trans ?_⟩
    rw [show bf D 0 = mk (bt D 0) from if_neg (by omega), bt_zero]

theorem mod50 (x : Int) : ∃ r : Nat, r < 50 ∧ (wrap64 (x.tmod 50 + 50)).tmod 50 = (r : Int) := by
  obtain ⟨r, h1, h2⟩ := mod_pos x 50 (by omega) (by omega)
  exact ⟨r, h1, h2⟩

end Go.Proofs.Ytgflfmpoeamnnaa
