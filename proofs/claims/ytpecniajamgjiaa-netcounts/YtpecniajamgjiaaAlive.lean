/-
  What New answers; that the page's example holds.
-/
import Derived.Test.YtpecniajamgjiaaSend
namespace Go.Proofs.Ytpecniajamgjiaa
open Go.RowKit

set_option maxHeartbeats 1000000 in
theorem new_any (lim : Int) (w : World) (h1 : 1 ≤ lim) (h2 : lim ≤ 4096) :
    Calls Try.prog 26 #[.int .i64 lim] w fun e w' => e = .returned (.tuple #[.agg #[.int .i64 lim, .slice none 0 0], .int .i64 0]) ∧ Below w.heap.size w w' := by
  have hmay : may lim = true := by simp [may, h1, h2]
  have HB : Hid (Below w.heap.size w (w.alloc (.cells #[.int .i64 lim, .slice none 0 0] 30))) := (Below.refl _ w).alloc (Nat.le_refl _) _
  go_enter Try.func26, Try.ntmps26
  go_wp2_with (go_at_call 39; refine (may_any _ _).mono ?_; rintro e w1 ⟨rfl, rfl⟩; rw [hmay])
  refine bodyPost_ret (v := .tuple #[.agg #[.int .i64 lim, .slice none 0 0], .int .i64 0]) (by simp [results, Try.results26, go_sem]) rfl ⟨rfl, HB.out⟩

theorem st_newN (lim : Int) (hi : I64 lim) (n : Nat) (w : World) : stN.owns n w [.int .i64 lim, .slice none 0 0] (lim, []) := st_omkN (s := (lim, [])) (Shape.list_nil pkN 28 Try.underlying28 cells28 n w) hi
theorem pk_bare (f t : Int) (hf : I64 f) (ht : I64 t) (n : Nat) (w : World) : pkF.lies n w [.int .i64 f, .int .i64 t, .slice none 0 0] (f, t, []) := pk_mk (p := (f, t, [])) (Own1.arg (.mk (World.ownsRow_nil _ _ _ _) (fun _ h => by cases h))) hf ht

theorem ex0 : serr (2, []) (0, 0, []) = 0 ∧ sis (2, []) (0, 0, []) = true ∧ sst (2, []) (0, 0, []) = (2, [(0, 0, [])]) := ⟨rfl, rfl, rfl⟩
theorem ex1 : serr (2, [(0, 0, [])]) (0, 1, []) = 0 ∧ sis (2, [(0, 0, [])]) (0, 1, []) = true ∧ sst (2, [(0, 0, [])]) (0, 1, []) = (2, [(0, 0, []), (0, 1, [])]) := ⟨rfl, rfl, rfl⟩
theorem ex2 : serr (2, [(0, 0, []), (0, 1, [])]) (0, 2, []) = 0 ∧ sis (2, [(0, 0, []), (0, 1, [])]) (0, 2, []) = false ∧ sst (2, [(0, 0, []), (0, 1, [])]) (0, 2, []) = (2, [(0, 0, []), (0, 1, [])]) := ⟨rfl, rfl, rfl⟩

set_option maxRecDepth 100000 in
set_option maxHeartbeats 4000000 in
theorem alive_any (w : World) : Calls Try.prog 25 #[] w fun e w' => e = .returned (.bool true) ∧ Below w.heap.size w w' := by
  go_enter Try.func25, Try.ntmps25
  go_wp2_with fail
  refine (new_any 2 w (by omega) (by omega)).mono ?_
  rintro e w1 ⟨rfl, hb1⟩
  obtain ⟨W1, hW1⟩ : ∃ W, W = w1.alloc (.cells #[.int .i64 2, .slice none 0 0] 30) := ⟨_, rfl⟩
  have hB1 : Box W1 w1.heap.size 30 #[.int .i64 2, .slice none 0 0] := by rw [hW1]; exact Box.new _ _ _
  have HW1 : Hid (Below w.heap.size w W1 ∧ Box W1 w1.heap.size 30 #[.int .i64 2, .slice none 0 0] ∧ w.heap.size ≤ w1.heap.size) := ⟨by rw [hW1]; exact hb1.alloc hb1.size _, hB1, hb1.size⟩
  have HS := send_any 0 0 [.int .i64 2, .slice none 0 0] [.int .i64 0, .int .i64 0, .slice none 0 0] (2, []) (0, 0, []) W1 (stN.olies (st_newN 2 ⟨by omega, by omega⟩ _ _)) (pk_bare 0 0 zero_i64 zero_i64 _ _)
  rw [ex0.1, ex0.2.1, ex0.2.2] at HS
  clear hb1 hB1
  go_wp2_with fail
  rw [← hW1]
  clear hW1
  refine HS.mono ?_
  rintro e w2 ⟨⟨u2, rfl, hO2⟩, hb2⟩
  obtain ⟨a2, c2, rfl, _⟩ := st_ownN hO2
  obtain ⟨g0, g1, g2, g3⟩ := (HW1.out.2.1.below hb2 HW1.out.2.1.lt).two
  obtain ⟨W2, hW2⟩ : ∃ W, W = (w2.setCell ⟨w1.heap.size, 0, none⟩ (.int .i64 2)).setCell ⟨w1.heap.size, 1, none⟩ (.slice a2 1 c2) := ⟨_, rfl⟩
  have HW2 : Hid (Below w.heap.size w W2 ∧ Box W2 w1.heap.size 30 #[.int .i64 2, .slice a2 1 c2] ∧ w.heap.size ≤ w1.heap.size ∧ stN.lies W1.heap.size W2 [.int .i64 2, .slice a2 1 c2] (2, [(0, 0, [])])) := by
    refine ⟨?_, ?_, HW1.out.2.2, ?_⟩
    · rw [hW2]; exact below_set2 (below_any HW1.out.1 hb2) HW1.out.2.2 _ _
    · rw [hW2]; exact ((HW1.out.2.1.below hb2 HW1.out.2.1.lt).set 0 _).set 1 _
    · rw [hW2]; exact stN.keep (stN.olies hO2) (.set2 HW1.out.2.1.lt)
  have HS2 := send_any W1.heap.size 0 _ [.int .i64 0, .int .i64 1, .slice none 0 0] (2, [(0, 0, [])]) (0, 1, []) W2 HW2.out.2.2.2 (pk_bare 0 1 zero_i64 ⟨by omega, by omega⟩ _ _)
  rw [ex1.1, ex1.2.1, ex1.2.2] at HS2
  obtain ⟨q0, q1, _, _⟩ := HW2.out.2.1.two
  rw [hW2] at q0 q1
  clear hO2 hb2 HS HW1
  simp only [List.length_cons, List.length_nil]
  go_wp2_with fail
  rw [← hW2]
  clear hW2 q0 q1 g0 g1 g2 g3
  refine HS2.mono ?_
  rintro e w3 ⟨⟨u3, rfl, hO3⟩, hb3⟩
  obtain ⟨a3, c3, rfl, _⟩ := st_ownN hO3
  obtain ⟨g0, g1, g2, g3⟩ := (HW2.out.2.1.below hb3 HW2.out.2.1.lt).two
  obtain ⟨W3, hW3⟩ : ∃ W, W = (w3.setCell ⟨w1.heap.size, 0, none⟩ (.int .i64 2)).setCell ⟨w1.heap.size, 1, none⟩ (.slice a3 2 c3) := ⟨_, rfl⟩
  have HW3 : Hid (Below w.heap.size w W3 ∧ Box W3 w1.heap.size 30 #[.int .i64 2, .slice a3 2 c3] ∧ w.heap.size ≤ w1.heap.size ∧ stN.lies W2.heap.size W3 [.int .i64 2, .slice a3 2 c3] (2, [(0, 0, []), (0, 1, [])])) := by
    refine ⟨?_, ?_, HW2.out.2.2.1, ?_⟩
    · rw [hW3]; exact below_set2 (below_any HW2.out.1 hb3) HW2.out.2.2.1 _ _
    · rw [hW3]; exact ((HW2.out.2.1.below hb3 HW2.out.2.1.lt).set 0 _).set 1 _
    · rw [hW3]; exact stN.keep (stN.olies hO3) (.set2 HW2.out.2.1.lt)
  have HS3 := send_any W2.heap.size 0 _ [.int .i64 0, .int .i64 2, .slice none 0 0] (2, [(0, 0, []), (0, 1, [])]) (0, 2, []) W3 HW3.out.2.2.2 (pk_bare 0 2 zero_i64 ⟨by omega, by omega⟩ _ _)
  rw [ex2.1, ex2.2.1, ex2.2.2] at HS3
  obtain ⟨q0, q1, _, _⟩ := HW3.out.2.1.two
  rw [hW3] at q0 q1
  clear hO3 hb3 HS2 HW2
  simp only [List.length_cons, List.length_nil]
  go_wp2_with fail
  rw [← hW3]
  clear hW3 q0 q1 g0 g1 g2 g3
  refine HS3.mono ?_
  rintro e w4 ⟨⟨u4, rfl, hO4⟩, hb4⟩
  obtain ⟨a4, c4, rfl, _⟩ := st_ownN hO4
  obtain ⟨g0, g1, g2, g3⟩ := (HW3.out.2.1.below hb4 HW3.out.2.1.lt).two
  have HB : Hid (Below w.heap.size w ((w4.setCell ⟨w1.heap.size, 0, none⟩ (.int .i64 2)).setCell ⟨w1.heap.size, 1, none⟩ (.slice a4 2 c4))) := below_set2 (below_any HW3.out.1 hb4) HW3.out.2.2.1 _ _
  have hl4 := run_len Try.underlying28 a4 2 c4
  clear hO4 hb4 HS3 HW3
  simp only [List.length_cons, List.length_nil]
  go_wp2_with (go_at_call 20; refine (num_any _ _).mono ?_; rintro e w6 ⟨rfl, rfl⟩)
  go_ret
  exact ⟨rfl, HB.out⟩

end Go.Proofs.Ytpecniajamgjiaa
