/-
  The statements' helper alive: the page's example.
-/
import Derived.Test.YthppbmbhoedphaaRRemove
namespace Go.Proofs.Ythppbmbhoedphaa
open Go.RowKit

theorem ex_one : aerr [] (⟨#[98]⟩, 2) = 0 ∧ aval [] (⟨#[98]⟩, 2) = [(⟨#[98]⟩, 2)] := by decide +kernel
theorem ex_two : aerr [(⟨#[98]⟩, 2)] (⟨#[97]⟩, 3) = 0 ∧ aval [(⟨#[98]⟩, 2)] (⟨#[97]⟩, 3) = [(⟨#[97]⟩, 3), (⟨#[98]⟩, 2)] := by decide +kernel
theorem ex_name : nerr ⟨#[97, 47, 98]⟩ = 106 := by decide +kernel

set_option maxRecDepth 100000 in
set_option maxHeartbeats 2000000 in
theorem alive_any (w : World) : Calls Try.prog 22 #[] w fun e w' => e = .returned (.bool true) ∧ Below w.heap.size w w' := by
  have H1 := add_any 0 (.slice none 0 0) [] (⟨#[98]⟩, 2) w (ArgE.nil _ _) ⟨by unfold maxLen; show 1 ≤ _; omega, by unfold I64; omega⟩
  rw [ex_one.1, ex_one.2] at H1
  go_enter Try.func22, Try.ntmps22
  go_wp2_with fail
  refine H1.mono ?_
  rintro e w1 ⟨⟨v1, rfl, hO1⟩, hb1⟩
  have H2 := add_any w.heap.size v1 [(⟨#[98]⟩, 2)] (⟨#[97]⟩, 3) w1 hO1.arg ⟨by unfold maxLen; show 1 ≤ _; omega, by unfold I64; omega⟩
  rw [ex_two.1, ex_two.2] at H2
  have HB1 : Hid (Below w.heap.size w w1) := hb1
  clear H1 hO1 hb1
  go_wp2_with fail
  refine H2.mono ?_
  rintro e w2 ⟨⟨v2, rfl, hO2⟩, hb2⟩
  have hln := hO2.arg.len
  obtain ⟨b, o, hix, _, hc0, _⟩ := hO2.arg.atN 0 _ rfl
  have hix0 : ∀ W, (Instr.indexAt 25 v2 (.int .i64 0)).run Try.prog W = .ok (.pointer (some ⟨b, o, none⟩)) W := hix
  simp only [List.length_cons, List.length_nil, Nat.zero_add, Nat.reduceAdd] at hln hc0
  have HB2 : Hid (Below w.heap.size w w2) := below_any HB1.out hb2
  have HN := name_any ⟨#[97, 47, 98]⟩ w2
  rw [ex_name] at HN
  clear H2 hO2 hb2 hix
  go_wp2_with (first | (go_at_call 16; refine (num_any _ _).mono ?_; rintro e w3 ⟨rfl, rfl⟩) | (go_at_call 20; refine HN.mono ?_; rintro e w3 ⟨rfl, hb3⟩))
  go_ret
  exact ⟨rfl, below_any HB2.out hb3⟩

end Go.Proofs.Ythppbmbhoedphaa
