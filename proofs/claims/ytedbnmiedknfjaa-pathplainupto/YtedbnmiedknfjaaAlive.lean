/-
  The statements' helper alive: the page's examples.
-/
import Derived.Test.YtedbnmiedknfjaaRWithin
import Derived.Test.YtedbnmiedknfjaaRParent
namespace Go.Proofs.Ytedbnmiedknfjaa
open Go.RowKit

theorem ex_split : serr ⟨#[47, 97, 47, 47, 98, 47]⟩ = 0 ∧ sval ⟨#[47, 97, 47, 47, 98, 47]⟩ = [⟨#[97]⟩, ⟨#[98]⟩] := by decide +kernel
theorem ex_parent : perr ⟨#[47, 97, 47, 98]⟩ = 0 ∧ ppar ⟨#[47, 97, 47, 98]⟩ = ⟨#[47, 97]⟩ ∧ plast ⟨#[47, 97, 47, 98]⟩ = ⟨#[98]⟩ := by decide +kernel

/-- Two texts, newly laid. -/
theorem lit_two (w : World) (x y : ByteArray) (hx : x.size ≤ maxLen) (hy : y.size ≤ maxLen) : ArgT w.heap.size (w.alloc (.cells #[.string x, .string y] 9)) (.slice (some ⟨w.heap.size, 0, none⟩) 2 2) [x, y] := by
  have hB := Box.new w 9 #[.string x, .string y]
  refine ⟨⟨rfl, .inr ⟨_, 2, rfl, by simp, by unfold maxLen; simp, Nat.le_refl _, fun i u hu => ?_⟩⟩, fun q hq => ?_⟩
  · match i, hu with
    | 0, hu => cases hu; exact hB.cell 0 rfl
    | 1, hu => cases hu; exact hB.cell 1 rfl
    | i + 2, hu => simp [tv] at hu
  · simp at hq
    rcases hq with rfl | rfl
    · exact hx
    · exact hy

set_option maxRecDepth 100000 in
set_option maxHeartbeats 2000000 in
theorem alive_any (w : World) : Calls Try.prog 19 #[] w fun e w' => e = .returned (.bool true) ∧ Below w.heap.size w w' := by
  have H1 := split_any ⟨#[47, 97, 47, 47, 98, 47]⟩ w
  rw [ex_split.1, ex_split.2] at H1
  go_enter Try.func19, Try.ntmps19
  go_wp2_with fail
  refine H1.mono ?_
  rintro e w1 ⟨v, rfl, hO, hb⟩
  have H2 := parent_any ⟨#[47, 97, 47, 98]⟩ w1
  rw [ex_parent.1, ex_parent.2.1, ex_parent.2.2] at H2
  have HB1 : Hid (OwnT w.heap.size w1 v [⟨#[97]⟩, ⟨#[98]⟩] ∧ Below w.heap.size w w1) := ⟨hO, hb⟩
  clear H1 hO hb
  go_wp2_with fail
  refine H2.mono ?_
  rintro e w2 ⟨rfl, hb2⟩
  obtain ⟨W, hW⟩ : ∃ W, W = w2.alloc (.cells #[.string ⟨#[97]⟩, .string ⟨#[98]⟩] 9) := ⟨_, rfl⟩
  have hbW : Below w2.heap.size w2 W := by rw [hW]; exact (Below.refl _ _).alloc (Nat.le_refl _) _
  have H3 := same_any w.heap.size w2.heap.size v (.slice (some ⟨w2.heap.size, 0, none⟩) 2 2) _ [⟨#[97]⟩, ⟨#[98]⟩] W (HB1.out.1.arg.below (below_any hb2 hbW)) (by rw [hW]; exact lit_two w2 _ _ (by unfold maxLen; decide) (by unfold maxLen; decide))
  rw [decide_eq_true rfl] at H3
  have HB2 : Hid (Below w.heap.size w W) := below_any (below_any HB1.out.2 hb2) hbW
  clear H2 hb2 hbW
  go_wp2_with (go_at_call 18; refine (num_any _ _).mono ?_; rintro e w3 ⟨rfl, rfl⟩)
  rw [← hW]
  refine H3.mono ?_
  rintro e w4 ⟨rfl, q, hq⟩
  have HB4 : Hid (Below w.heap.size w w4) := by show Below _ _ _; rw [hq]; exact below_drewN HB2.out _
  clear H3 hq hW
  go_wp2
  go_ret
  exact ⟨rfl, HB4.out⟩

end Go.Proofs.Ytedbnmiedknfjaa
