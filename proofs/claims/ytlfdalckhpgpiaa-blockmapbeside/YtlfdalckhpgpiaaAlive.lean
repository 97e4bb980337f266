/-
  The statements' helper alive: the page's examples.
-/
import Derived.Test.YtlfdalckhpgpiaaPath
import Derived.Test.YtlfdalckhpgpiaaSpan
namespace Go.Proofs.Ytlfdalckhpgpiaa
open Go.RowKit

set_option maxRecDepth 100000 in
set_option maxHeartbeats 2000000 in
theorem alive_any (w : World) : Calls Try.prog 19 #[] w fun e w' => e = .returned (.bool true) ∧ Below w.heap.size w w' := by
  have H1 := path_any 11 w (by unfold I64; omega)
  rw [show pathL 11 = [4, 7] by decide, show pathE 11 = 0 by decide] at H1
  go_enter Try.func19, Try.ntmps19
  go_wp2_with fail
  refine H1.mono ?_
  rintro e w1 ⟨⟨a1, c1, rfl, ho1⟩, hb1⟩
  have H2 := path_any 75 w1 (by unfold I64; omega)
  rw [show pathL 75 = [5, 7, 7] by decide, show pathE 75 = 0 by decide] at H2
  have HO1 : Hid (∀ V, Below w1.heap.size w1 V → intsS.lies 0 V [.slice a1 2 c1] [4, 7]) := fun V hV => intsS.weaken (intsS.olies (intsS.obelow ho1 hV)) (Nat.zero_le _)
  have HB1 : Hid (Below w.heap.size w w1) := hb1
  clear H1 ho1 hb1
  simp only [List.length_cons, List.length_nil, Nat.zero_add, Nat.reduceAdd] at H2 ⊢
  go_wp2_with fail
  refine H2.mono ?_
  rintro e w2 ⟨⟨a2, c2, rfl, ho2⟩, hb2⟩
  have H3 := blocks_any 2432 w2 (by unfold I64; omega)
  rw [show blkV 2432 = 76 by decide, show blkM 2432 = 10 by decide, show blkE 2432 = 0 by decide] at H3
  have HO2 : Hid (∀ V, Below w2.heap.size w2 V → intsS.lies 0 V [.slice a2 3 c2] [5, 7, 7]) := fun V hV => intsS.weaken (intsS.olies (intsS.obelow ho2 hV)) (Nat.zero_le _)
  have HB2 : Hid (Below w1.heap.size w1 w2) := hb2
  clear H2 ho2 hb2
  go_wp2_with fail
  refine H3.mono ?_
  rintro e w3 ⟨rfl, rfl⟩
  clear H3
  go_wp2_with (go_at_call 18; refine (num_any _ _).mono ?_; rintro e w3 ⟨rfl, rfl⟩)
  obtain ⟨W3, hW3⟩ : ∃ W, W = w2.alloc (.cells #[.int .i64 4, .int .i64 7] 3) := ⟨_, rfl⟩
  have hb3 : Below w2.heap.size w2 W3 := by rw [hW3]; exact (Below.refl _ w2).alloc (Nat.le_refl _) _
  have H4 := same_any 0 _ _ _ _ _ W3 (HO1.out W3 (below_any HB2.out hb3)) (by rw [hW3]; exact intsS.olies (lit2 w2 4 7 (by unfold I64; omega) (by unfold I64; omega)))
  rw [show decide (([4, 7] : List Int) = [4, 7]) = true by decide] at H4
  rw [← hW3]
  clear hW3
  refine H4.mono ?_
  rintro e w4 ⟨rfl, q, rfl⟩
  obtain ⟨W4, hW4⟩ : ∃ W, W = W3.drewN q := ⟨_, rfl⟩
  have hb4 : Below w2.heap.size w2 W4 := by rw [hW4]; exact below_drewN hb3 q
  rw [← hW4]
  have HB4 : Hid (Below w2.heap.size w2 W4) := hb4
  clear H4 hW4 hb3 hb4
  go_wp2_with fail
  obtain ⟨W5, hW5⟩ : ∃ W, W = W4.alloc (.cells #[.int .i64 5, .int .i64 7, .int .i64 7] 3) := ⟨_, rfl⟩
  have hb5 : Below W4.heap.size W4 W5 := by rw [hW5]; exact (Below.refl _ W4).alloc (Nat.le_refl _) _
  have H5 := same_any 0 _ _ _ _ _ W5 (HO2.out W5 (below_any HB4.out hb5)) (by rw [hW5]; exact intsS.olies (lit3 W4 5 7 7 (by unfold I64; omega) (by unfold I64; omega) (by unfold I64; omega)))
  rw [show decide (([5, 7, 7] : List Int) = [5, 7, 7]) = true by decide] at H5
  rw [← hW5]
  clear hW5
  refine H5.mono ?_
  rintro e w6 ⟨rfl, r, rfl⟩
  go_wp2
  go_ret
  exact ⟨rfl, below_drewN (below_any (below_any (below_any HB1.out HB2.out) HB4.out) hb5) r⟩

end Go.Proofs.Ytlfdalckhpgpiaa
