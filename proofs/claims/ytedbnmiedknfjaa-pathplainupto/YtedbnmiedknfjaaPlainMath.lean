/-
  A text built of names, each with one to three slashes ahead of it: its parts; how long it is; the second form's bound.
-/
import Derived.Test.YtedbnmiedknfjaaLawMath
import Derived.SliceStrings
namespace Go.Proofs.Ytedbnmiedknfjaa
open Go.RowKit Go.ChangeShapes Go.WideShapes Go.ChangeAt

theorem wrap64_in' (x : Int) (h : -9223372036854775808 ≤ x ∧ x ≤ 9223372036854775807) : wrap64 x = x := by unfold wrap64; omega
theorem tmod_bounds (x : Int) (m : Nat) (hm : 0 < m) : -(m : Int) < x.tmod m ∧ x.tmod m < m := by
  have h1 := Int.tmod_lt_of_pos x (show (0 : Int) < m by omega)
  have h2 := Int.lt_tmod_of_pos x (show (0 : Int) < m by omega)
  omega
theorem mod3 (x : Int) : ∃ r : Nat, r < 3 ∧ (wrap64 (x.tmod 3 + 3)).tmod 3 = (r : Int) := by
  have h12 := tmod_bounds x 3 (by omega)
  have h1 : -3 < x.tmod 3 := h12.1
  have h2 : x.tmod 3 < 3 := h12.2
  have e : wrap64 (x.tmod 3 + 3) = x.tmod 3 + 3 := wrap64_in' _ (by omega)
  rw [e, Int.tmod_eq_emod_of_nonneg (by omega)]
  exact ⟨((x.tmod 3 + 3) % 3).toNat, by omega, by omega⟩

theorem prts_rep (m : Nat) (x : List UInt8) : prts (List.replicate m 47 ++ x) = prts x := by
  induction m with
  | zero => rfl
  | succ m ih => rw [List.replicate_succ, List.cons_append, prts_first, ih]
/-- One name more. -/
theorem prts_more (t : List UInt8) (m : Nat) (x : List UInt8) (h : (47 : UInt8) ∉ x ∧ x ≠ []) : prts (t ++ List.replicate (m + 1) 47 ++ x) = prts t ++ [x] := by
  rw [List.append_assoc, List.replicate_succ, List.cons_append, prts_snoc_slash, prts_rep, prts_plain h.1, flush_ne h.2]

def tot (l : List ByteArray) : Nat := (l.map (·.size)).sum
theorem tot_snoc (l : List ByteArray) (x : ByteArray) : tot (l ++ [x]) = tot l + x.size := by simp [tot]
theorem tot_take (l : List ByteArray) (k : Nat) : tot (l.take k) ≤ tot l := by
  have h : tot l = tot (l.take k) + tot (l.drop k) := by
    rw [tot, tot, tot, ← List.sum_append, ← List.map_append, List.take_append_drop]
  omega

/-- A text built of the first i names. -/
structure Built (l : List ByteArray) (i : Nat) (t : List UInt8) : Prop where
  parts : (l.take i).all nameOk = true → prts t = dl (l.take i)
  len : t.length ≤ 3 * i + tot (l.take i)
  head : 0 < i → ∃ r, t = 47 :: r
  none : i = 0 → t = []
theorem Built.zero (l : List ByteArray) : Built l 0 [] := ⟨fun _ => rfl, by simp, fun h => by omega, fun _ => rfl⟩
theorem Built.succ {l : List ByteArray} {i : Nat} {t : List UInt8} (h : Built l i t) {x : ByteArray} (hx : l[i]? = some x) (m : Nat) (hm : m < 3) : Built l (i + 1) (t ++ List.replicate (m + 1) 47 ++ x.data.toList) := by
  have e := take_snoc hx
  refine ⟨fun ha => ?_, ?_, fun _ => ?_, fun h => by omega⟩
  · rw [e, List.all_append, Bool.and_eq_true] at ha
    have h1 := name_slash (s := x) (by simpa using ha.2)
    rw [prts_more _ _ _ h1, h.parts ha.1, e, dl_snoc]
  · have := h.len
    rw [e, tot_snoc, List.length_append, List.length_append, List.length_replicate, ← Lib.size_eq]
    omega
  · cases i with
    | zero => rw [h.none rfl, List.nil_append, List.replicate_succ, List.cons_append]; exact ⟨_, rfl⟩
    | succ i =>
      obtain ⟨r, hr⟩ := h.head (by omega)
      rw [hr]
      exact ⟨_, by rw [List.cons_append, List.cons_append]⟩

/-- What is split of it: the names. -/
theorem Built.split {l : List ByteArray} {t T : List UInt8} (h : Built l l.length t) (hT : T = t ∧ t ≠ [] ∨ T = t ++ [47]) (hj : jerr l = 0) (h128 : T.length ≤ 128) : serr (bk T) = 0 ∧ sval (bk T) = l := by
  obtain ⟨h1, h2, _⟩ := jerr_zero.1 hj
  have hp : prts T = dl l := by
    have := h.parts (by rw [List.take_length]; exact h1)
    rw [List.take_length] at this
    rcases hT with ⟨e, _⟩ | e
    · rw [e, this]
    · rw [e, prts_end, this]
  have hr : ∃ r, T = 47 :: r := by
    rcases hT with ⟨e, hne⟩ | e
    · rcases Nat.eq_zero_or_pos l.length with h0 | h0
      · exact (hne (h.none h0)).elim
      · rw [e]; exact h.head h0
    · rcases Nat.eq_zero_or_pos l.length with h0 | h0
      · rw [e, h.none h0]; exact ⟨[], rfl⟩
      · obtain ⟨r, hr⟩ := h.head h0
        rw [e, hr]; exact ⟨_, by rw [List.cons_append]⟩
  have hpt : pts (bk T) = l := by rw [pts, bk_data, hp, dl_bk]
  obtain ⟨r, hr⟩ := hr
  have hs : serr (bk T) = 0 := serr_zero.2 ⟨by rw [bk_size]; exact h128, by rw [hr]; exact rooted_cons, by rw [hpt]; exact h1, by rw [hpt]; exact h2⟩
  exact ⟨hs, by rw [sval_zero hs, hpt]⟩

/-! The bound of the second form. -/

theorem bulk_strs {H : Type} (ss : List ByteArray) : Rows.uptoBulkAll (strs (H := H) ss) = tot ss + ss.length := by
  induction ss with
  | nil => simp [strs, Rows.uptoBulkAll, tot]
  | cons x r ih =>
    have e : strs (H := H) (x :: r) = .lit (.string x.data.toList) :: strs r := rfl
    rw [e, Rows.uptoBulkAll, ih]
    simp only [Rows.uptoBulk, tot, List.map_cons, List.sum_cons, List.length_cons]
    rw [← Lib.size_eq]
    omega

theorem texts_bulk {H : Type} {enc : TypeId × Value → H} {W : World} {fuel : Nat} {x : Option Addr} {len cap : Nat} {y : DataW H × List MemPlace} {l : List ByteArray}
    (hf : DataW.trod enc Try.prog W 0 (fun _ => true) true fuel 22 [.slice x len cap] = some y) (hA : ArgT 0 W (.slice x len cap) l) : tot l + l.length ≤ Rows.uptoBulk y.1 := by
  obtain ⟨a0, c0, hv0, _⟩ := hA.shape
  obtain ⟨_, hlen, _⟩ := Value.slice.inj hv0
  rcases open_strings Try.underlying22 Try.underlying9 strL.cells hf with ⟨h1, _⟩ | ⟨a, len', cap', ss, hcs, _, hlc, _, hss, hx, hcell, _⟩
  · have h3 : Value.slice x len cap = .slice none 0 0 := by simpa using h1
    obtain ⟨_, h4, _⟩ := Value.slice.inj h3
    have : l = [] := List.eq_nil_of_length_eq_zero (by omega)
    rw [this]
    simp [tot]
  · have h3 : Value.slice x len cap = .slice (some a) len' cap' := by simpa using hcs
    obtain ⟨hxa, rfl, rfl⟩ := Value.slice.inj h3
    simp only [if_true] at hss
    have hl : l = ss.take len := by
      apply List.ext_getElem?
      intro i
      by_cases hi : i < len
      · obtain ⟨z, hz⟩ := get_lt (l := l) (k := i) (by omega)
        obtain ⟨_, ⟨hn, h0⟩ | ⟨x', cap2, hv, _, _, _, hc⟩⟩ := hA.1
        · omega
        · have hv2 := (Value.slice.inj hv).1
          rw [hxa] at hv2
          obtain rfl : a = x' := by simpa using hv2
          have e1 := hc i (.string z) (by simp [tv, hz])
          rw [hcell i (by omega)] at e1
          have e2 : ss.getD i ByteArray.empty = z := by simpa using e1
          rw [hz, List.getElem?_take, if_pos hi]
          rw [List.getD_eq_getElem?_getD] at e2
          have e3 : ss[i]? = some ss[i] := List.getElem?_eq_getElem (by omega)
          rw [e3] at e2 ⊢
          simp at e2
          rw [e2]
      · rw [List.getElem?_eq_none (by omega), List.getElem?_eq_none (by rw [List.length_take]; omega)]
    rw [hx, hl]
    simp only [Rows.uptoBulk, bulk_strs]
    omega

theorem bulk_three {H : Type} {d0 d1 d2 : DataW H} (h : Rows.uptoSmall H ([d0, d1, d2] ++ []) = true) : Rows.uptoBulk d0 ≤ 1048576 := by
  simp only [Rows.uptoSmall, decide_eq_true_eq, List.append_nil, Rows.uptoBulkAll] at h
  omega

end Go.Proofs.Ytedbnmiedknfjaa
