/-
  Which texts may be names; what dir.Name and the document's answer for it are, for every text.
-/
import Derived.Test.YtedbnmiedknfjaaAny
namespace Go.Proofs.Ytedbnmiedknfjaa
open Go.RowKit Go.Lib

/-- A text may be a name. -/
def nameOk (s : ByteArray) : Bool := decide (1 ≤ s.size) && (decide (s.size ≤ 16) && (!(Lib.containsAny s.data.toList two) && (!(s.toList == [46]) && !(s.toList == [46, 46]))))
def nerr (s : ByteArray) : Int := if nameOk s = true then 0 else 106


set_option maxHeartbeats 400000 in
theorem num_any (x : Int) (w : World) : Calls Try.prog 18 #[.int .i64 x] w fun e w' => e = .returned (.int .i64 x) ∧ w = w' := by
  go_enter Try.func18, Try.ntmps18
  go_wp2
  go_ret
  exact ⟨rfl, rfl⟩

theorem empty_iff (s : ByteArray) : s.toList.isEmpty = decide (s.size = 0) := by
  rw [Lib.toList_data, Lib.size_eq]
  cases s.data.toList <;> simp

set_option maxRecDepth 100000 in
set_option maxHeartbeats 2000000 in
theorem name_any (s : ByteArray) (w : World) : Calls Try.prog 22 #[.string s] w fun e w' => e = .returned (.int .i64 (nerr s)) ∧ Below w.heap.size w w' := by
  have HB : Hid (Below w.heap.size w w) := Below.refl _ w
  by_cases h0 : s.size = 0
  · have hemp : s.toList.isEmpty = true := by rw [empty_iff]; simp [h0]
    have he : nerr s = 106 := by simp [nerr, nameOk, h0]
    rw [he]
    clear he
    go_enter Try.func22, Try.ntmps22
    go_wp2
    go_ret
    exact ⟨rfl, HB.out⟩
  have hemp : s.toList.isEmpty = false := by rw [empty_iff]; simp [h0]
  by_cases h1 : 16 < s.size
  · have he : nerr s = 106 := by simp [nerr, nameOk, show ¬ s.size ≤ 16 by omega]
    have h1i : (16 : Int) < (s.size : Int) := by omega
    rw [he]
    clear he
    go_enter Try.func22, Try.ntmps22
    go_wp2
    go_ret
    exact ⟨rfl, HB.out⟩
  have h1i : ¬ (16 : Int) < (s.size : Int) := by omega
  have HC : Hid (Calls Try.prog 30 #[.string s, .string ⟨#[0, 47]⟩] w fun e w' => e = .returned (.bool (Lib.containsAny s.data.toList two)) ∧ Below w.heap.size w w') := contains_any s w (by omega)
  cases hc : Lib.containsAny s.data.toList two
  case true =>
    have he : nerr s = 106 := by simp [nerr, nameOk, hc]
    rw [he]
    rw [hc] at HC
    clear he hc
    go_enter Try.func22, Try.ntmps22
    go_wp2_with (go_at_call 30; refine HC.out.mono ?_; rintro e w' ⟨rfl, hw⟩)
    go_ret
    exact ⟨rfl, hw⟩
  rw [hc] at HC
  cases hd : s.toList == [46]
  case true =>
    have he : nerr s = 106 := by simp [nerr, nameOk, hd]
    rw [he]
    clear he hc
    go_enter Try.func22, Try.ntmps22
    go_wp2_with (go_at_call 30; refine HC.out.mono ?_; rintro e w' ⟨rfl, hw⟩)
    go_ret
    exact ⟨rfl, hw⟩
  cases hdd : s.toList == [46, 46]
  case true =>
    have he : nerr s = 106 := by simp [nerr, nameOk, hdd]
    rw [he]
    clear he hc
    go_enter Try.func22, Try.ntmps22
    go_wp2_with (go_at_call 30; refine HC.out.mono ?_; rintro e w' ⟨rfl, hw⟩)
    go_ret
    exact ⟨rfl, hw⟩
  have he : nerr s = 0 := by simp [nerr, nameOk, hc, hd, hdd, show s.size ≤ 16 by omega, show 1 ≤ s.size by omega]
  rw [he]
  clear he hc
  go_enter Try.func22, Try.ntmps22
  go_wp2_with (go_at_call 30; refine HC.out.mono ?_; rintro e w' ⟨rfl, hw⟩)
  go_ret
  exact ⟨rfl, hw⟩

end Go.Proofs.Ytedbnmiedknfjaa
