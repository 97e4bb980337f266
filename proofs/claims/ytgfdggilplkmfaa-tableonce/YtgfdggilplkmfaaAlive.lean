/-
  The example: the program's calls, one behind the other.
-/
import Derived.Test.YtgfdggilplkmfaaNew
namespace Go.Proofs.Ytgfdggilplkmfaa
open Go.RowKit

set_option maxRecDepth 100000 in
set_option maxHeartbeats 4000000 in
theorem alive_any (w : World) : Calls Try.prog 22 #[] w fun e w' => e = .returned (.bool true) ∧ Below w.heap.size w w' := by
  have HW : Hid (Below w.heap.size w w) := Below.refl _ _
  have HC := new_any 2 w
  rw [show nV 2 = [(0, 0), (0, 0)] by decide, show nE 2 = 0 by decide] at HC
  go_enter Try.func22, Try.ntmps22
  go_wp2_with fail
  refine HC.mono ?_
  rintro e w1 ⟨⟨v1, rfl, hA1⟩, hb1⟩
  have H1 : Hid (Below w.heap.size w w1) := hb1
  clear hb1 HC HW
  have HC := alloc_any _ v1 [(0, 0), (0, 0)] 1 3 ⟨by omega, by omega⟩ w1 hA1.arg
  rw [show aV [(0, 0), (0, 0)] 1 3 = [(1, 3), (0, 0)] by decide, show aP [(0, 0), (0, 0)] 1 3 = 0 by decide, show aE [(0, 0), (0, 0)] 1 3 = 0 by decide] at HC
  go_wp2_with fail
  refine HC.mono ?_
  rintro e w2 ⟨⟨v2, rfl, hA2⟩, hb2⟩
  have H2 : Hid (Below w.heap.size w w2) := below_any H1.out hb2
  clear hb2 HC hA1 H1
  have HC := alloc_any _ v2 [(1, 3), (0, 0)] 2 1 ⟨by omega, by omega⟩ w2 hA2.arg
  rw [show aV [(1, 3), (0, 0)] 2 1 = [(1, 3), (2, 1)] by decide, show aP [(1, 3), (0, 0)] 2 1 = 1 by decide, show aE [(1, 3), (0, 0)] 2 1 = 0 by decide] at HC
  go_wp2_with fail
  refine HC.mono ?_
  rintro e w3 ⟨⟨v3, rfl, hA3⟩, hb3⟩
  have H3 : Hid (Below w.heap.size w w3) := below_any H2.out hb3
  clear hb3 HC hA2 H2
  have HC := alloc_any _ v3 [(1, 3), (2, 1)] 3 1 ⟨by omega, by omega⟩ w3 hA3.arg
  rw [show aV [(1, 3), (2, 1)] 3 1 = [] by decide, show aP [(1, 3), (2, 1)] 3 1 = 0 by decide, show aE [(1, 3), (2, 1)] 3 1 = 51 by decide] at HC
  go_wp2_with fail
  refine HC.mono ?_
  rintro e w4 ⟨⟨v4, rfl, hA4⟩, hb4⟩
  have H4 : Hid (Below w.heap.size w w4) := below_any H3.out hb4
  have hA3b := hA3.below hb4
  clear hb4 HC hA4 H3 hA3
  have HC := free_any _ v3 [(1, 3), (2, 1)] 0 w4 hA3b.arg
  rw [show fV [(1, 3), (2, 1)] 0 = [] by decide, show fE [(1, 3), (2, 1)] 0 = 91 by decide] at HC
  go_wp2_with fail
  refine HC.mono ?_
  rintro e w5 ⟨⟨v5, rfl, hA5⟩, hb5⟩
  have H5 : Hid (Below w.heap.size w w5) := below_any H4.out hb5
  have hA3c := hA3b.below hb5
  clear hb5 HC hA5 H4 hA3b
  have HC := kill_any _ v3 [(1, 3), (2, 1)] 0 3 w5 hA3c.arg
  rw [show kV [(1, 3), (2, 1)] 0 3 = [(1, 0), (2, 1)] by decide, show kE [(1, 3), (2, 1)] 0 3 = 0 by decide] at HC
  go_wp2_with fail
  refine HC.mono ?_
  rintro e w6 ⟨⟨v6, rfl, hA6⟩, hb6⟩
  have H6 : Hid (Below w.heap.size w w6) := below_any H5.out hb6
  clear hb6 HC H5 hA3c
  have HC := free_any _ v6 [(1, 0), (2, 1)] 0 w6 hA6.arg
  rw [show fV [(1, 0), (2, 1)] 0 = [(0, 0), (2, 1)] by decide, show fE [(1, 0), (2, 1)] 0 = 0 by decide] at HC
  go_wp2_with fail
  refine HC.mono ?_
  rintro e w7 ⟨⟨v7, rfl, hA7⟩, hb7⟩
  have H7 : Hid (Below w.heap.size w w7) := below_any H6.out hb7
  clear hb7 HC H6 hA6
  have HC := alloc_any _ v7 [(0, 0), (2, 1)] 3 1 ⟨by omega, by omega⟩ w7 hA7.arg
  rw [show aV [(0, 0), (2, 1)] 3 1 = [(3, 1), (2, 1)] by decide, show aP [(0, 0), (2, 1)] 3 1 = 0 by decide, show aE [(0, 0), (2, 1)] 3 1 = 0 by decide] at HC
  go_wp2_with fail
  refine HC.mono ?_
  rintro e w8 ⟨⟨v8, rfl, hA8⟩, hb8⟩
  have H8 : Hid (Below w.heap.size w w8) := below_any H7.out hb8
  clear hb8 HC H7 hA7 hA8
  go_wp2_with (go_at_call 19; refine (num_any _ _).mono ?_; rintro e w9 ⟨rfl, rfl⟩)
  go_ret
  exact ⟨rfl, H8.out⟩

end Go.Proofs.Ytgfdggilplkmfaa
