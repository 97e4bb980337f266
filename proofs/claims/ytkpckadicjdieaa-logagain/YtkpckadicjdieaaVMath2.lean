/-
  Plain mathematics: how many are there; what is put once more changes nothing; remainders.
-/
import Derived.Test.YtkpckadicjdieaaAMeet
import Derived.Test.YtkpckadicjdieaaVMath
namespace Go.Proofs.Ytkpckadicjdieaa
open Go.ChangeShapes Go.WideShapes Go.ChangeAt Go.RowKit

theorem AllOf.few {s : St} {L : List Bk} (h : AllOf s L) (hok : Ok s) : L.length ≤ 1000 := by
  have hu : L.Pairwise unl := h.up.imp fun {a b} hab => by
    unfold kLt at hab
    unfold unl
    omega
  have h0 := unl_le (A := s.2.2.1 ++ blks s.1) hu fun b hb => there_mem ((h.mem b).1 hb)
  have h1 := blks_length (l := s.1) fun q hq => hok.small q hq
  have h2 := hok.slots.2
  have h3 := hok.few
  rw [List.length_append] at h0
  omega
theorem there_may {s : St} (h : Ok s) {b : Bk} (hb : isThere s b) : mayB b = true := by
  obtain ⟨t, ht, e1, e2⟩ := there_mem hb
  obtain ⟨h1, h2, _⟩ := may_iff.1 (all_may h ht)
  have h3 := last_may h b.1 b.2.1
  rw [← hb.1] at h3
  exact may_iff.2 ⟨by rw [← e1]; exact h1, by rw [← e2]; exact h2, h3⟩
/-- What is there, put once more as it is, changes nothing that is got. -/
theorem again_last {s : St} {b : Bk} (h : pE s b = 0) (hb : isThere s b) (o i : Int) : (last (pS s b) o i).1.2.2 = (last s o i).1.2.2 := by
  rw [pS_last h]
  by_cases c : o = b.1 ∧ i = b.2.1
  · rw [if_pos c, c.1, c.2, hb.1]
  · rw [if_neg c]
theorem wrap64_in' (x : Int) (h : -9223372036854775808 ≤ x ∧ x ≤ 9223372036854775807) : wrap64 x = x := by
  unfold wrap64
  omega
theorem tmod_bounds (x : Int) (m : Nat) (hm : 0 < m) : -(m : Int) < x.tmod m ∧ x.tmod m < m := by
  constructor
  · have := Int.lt_tmod_of_pos x (show (0 : Int) < m by omega)
    omega
  · exact Int.tmod_lt_of_pos x (by omega)
theorem mod_pos (x : Int) (m : Nat) (hm : 0 < m) (hb : m ≤ 10000) : ∃ r : Nat, r < m ∧ (wrap64 (x.tmod m + m)).tmod m = (r : Int) := by
  obtain ⟨h1, h2⟩ := tmod_bounds x m hm
  have e : wrap64 (x.tmod m + m) = x.tmod m + m := wrap64_in' _ (by omega)
  rw [e, Int.tmod_eq_emod_of_nonneg (by omega)]
  have h3 := Int.emod_nonneg (x.tmod m + m) (show (m : Int) ≠ 0 by omega)
  have h4 := Int.emod_lt_of_pos (x.tmod m + m) (show (0 : Int) < m by omega)
  exact ⟨((x.tmod m + m) % m).toNat, by omega, by omega⟩

end Go.Proofs.Ytkpckadicjdieaa
