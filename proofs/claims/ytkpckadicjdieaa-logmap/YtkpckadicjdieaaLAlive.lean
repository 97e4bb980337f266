/-
  The example of the page.
-/
import Derived.Test.YtkpckadicjdieaaZ15
import Derived.Lib.SlBytesConst
import Derived.Laws.BytesArg
namespace Go.Proofs.Ytkpckadicjdieaa
open Go.RowKit

theorem st_flat {n : Nat} {w : World} {us : List Value} {s : St} (h : stN.owns n w us s) : ∃ a n1 c b n2 d e n3 f q, us = [.slice a n1 c, .slice b n2 d, .slice e n3 f, .int .i64 q] := by
  obtain ⟨a, c, b, d, e, f, h, _⟩ := st_ownN h
  exact ⟨a, _, c, b, _, d, e, _, f, _, h⟩
theorem conv_str {n0 : Nat} {w : World} {v : Value} {l : List Int} (h : Arg n0 w v l) (h0 : l ≠ []) : (convert 27 9 v).run Try.prog w = .ok (.string (strOfNums l)) w := by
  rcases h.split with ⟨rfl, _⟩ | ⟨b, off, cap, rfl, _, _, _, hc⟩
  · exact absurd rfl h0
  · exact run_convert_bytes_arg w 27 5 Try.underlying27 Try.underlying5 b off l.length cap l rfl hc 9 Try.underlying9

set_option maxRecDepth 100000 in
set_option maxHeartbeats 16000000 in
theorem alive_any (w : World) : Calls Try.prog 23 #[] w fun e w' => e = .returned (.bool true) ∧ Below w.heap.size w w' := by
  have HC0 := new_any 2 w
  rw [e1.1, e1.2] at HC0
  obtain ⟨post, hpost⟩ : ∃ post : Ending → World → Prop, post = fun e w' => e = .returned (.bool true) ∧ Below w.heap.size w w' := ⟨_, rfl⟩
  have HPo : Hid (∀ w', Below w.heap.size w w' → post (.returned (.bool true)) w') := fun w' h => by rw [hpost]; exact ⟨rfl, h⟩
  rw [← hpost]
  clear hpost
  go_enter Try.func23, Try.ntmps23
  go_wp2_with fail
  refine HC0.mono ?_
  rintro e9 w1 ⟨⟨us9, rfl, ho9⟩, hb9⟩
  obtain ⟨a1, n1, c1, b1, m1, d1, e1, k1, f1, q1, rfl⟩ := st_flat ho9
  obtain ⟨X1, hX1⟩ : ∃ X, X = w1.alloc (.cells #[.slice a1 n1 c1, .slice b1 m1 d1, .slice e1 k1 f1, .int .i64 q1] 33) := ⟨_, rfl⟩
  have HB1 : Hid (w.heap.size ≤ w1.heap.size) := hb9.size
  have HX1 : Hid (Below w.heap.size w X1 ∧ stN.lies 0 X1 [.slice a1 n1 c1, .slice b1 m1 d1, .slice e1 k1 f1, .int .i64 q1] x1 ∧ Box X1 w1.heap.size 33 #[.slice a1 n1 c1, .slice b1 m1 d1, .slice e1 k1 f1, .int .i64 q1]) := by
    rw [hX1]
    exact ⟨hb9.alloc hb9.size _, stN.weaken (stN.below (stN.olies ho9) ((Below.refl _ _).alloc (Nat.le_refl _) _)) (Nat.zero_le _), Box.new _ _ _⟩
  clear ho9 hb9 HC0
  go_upto_region 2 with fail
  rw [← hX1]
  clear hX1
  obtain ⟨Y1, hY1⟩ : ∃ Y, Y = X1.alloc (.cells #[.int .u8 97] 5) := ⟨_, rfl⟩
  have hbY1 : Below X1.heap.size X1 Y1 := by rw [hY1]; exact (Below.refl _ _).alloc (Nat.le_refl _) _
  have hxY1 : Box Y1 X1.heap.size 5 #[.int .u8 97] := by rw [hY1]; exact Box.new _ _ _
  have hAY1 : Arg X1.heap.size Y1 (.slice (some ⟨X1.heap.size, 0, none⟩) 1 1) [97] := Arg.mk (Cells.box hxY1 rfl (by unfold maxLen; omega) (Nat.le_refl _)) (fun x hx => by
    obtain rfl := List.mem_singleton.1 hx
    decide)
  obtain ⟨Z1, hcvt1, hbZ1, hcel1⟩ := conv_mark Y1 X1.heap.size 1 1 _ hxY1
  have hbb1 : Below X1.heap.size X1 Z1 := hbY1.trans hbZ1
  have HC1 := put_any 0 0 [.slice a1 n1 c1, .slice b1 m1 d1, .slice e1 k1 f1, .int .i64 q1] x1 [.int .i64 1, .int .i64 0, .slice (some ⟨X1.heap.size, 0, none⟩) 1 1] (1, 0, [97]) Z1 (stN.below HX1.out.2.1 hbb1) (bk_mk (p := (1, 0, [97])) ((hAY1.same hcel1).weaken (Nat.zero_le _)) ⟨by show _ ≤ (1 : Int); omega, by show (1 : Int) ≤ _; omega⟩ ⟨by show _ ≤ (0 : Int); omega, by show (0 : Int) ≤ _; omega⟩) (Nat.zero_le _)
  rw [e2.1, e2.2] at HC1
  have HZ1 : Hid (Below w.heap.size w Z1 ∧ Box Z1 w1.heap.size 33 #[.slice a1 n1 c1, .slice b1 m1 d1, .slice e1 k1 f1, .int .i64 q1] ∧ w1.heap.size < Z1.heap.size) := ⟨HX1.out.1.trans (hbb1.mono HX1.out.1.size), HX1.out.2.2.below hbb1 HX1.out.2.2.lt, Nat.lt_of_lt_of_le HX1.out.2.2.lt hbb1.size⟩
  rw [hY1] at hcvt1
  obtain ⟨g0, g1, g2, g3, -⟩ := HX1.out.2.2.four
  clear hY1 hbY1 hxY1 hAY1 hbZ1 hcel1 hbb1
  go_wp2_with fail
  clear hcvt1 g0 g1 g2 g3
  refine HC1.mono ?_
  rintro e9 w2 ⟨⟨us9, rfl, ho9⟩, hb9⟩
  obtain ⟨a2, n2, c2, b2, m2, d2, e2, k2, f2, q2, rfl⟩ := st_flat ho9
  have hx9 := HZ1.out.2.1.below hb9 HZ1.out.2.1.lt
  obtain ⟨X2, hX2⟩ : ∃ X, X = (((w2.setCell ⟨w1.heap.size, 0, none⟩ (.slice a2 n2 c2)).setCell ⟨w1.heap.size, 1, none⟩ (.slice b2 m2 d2)).setCell ⟨w1.heap.size, 2, none⟩ (.slice e2 k2 f2)).setCell ⟨w1.heap.size, 3, none⟩ (.int .i64 q2) := ⟨_, rfl⟩
  have HX2 : Hid (Below w.heap.size w X2 ∧ stN.lies 0 X2 [.slice a2 n2 c2, .slice b2 m2 d2, .slice e2 k2 f2, .int .i64 q2] x2 ∧ Box X2 w1.heap.size 33 #[.slice a2 n2 c2, .slice b2 m2 d2, .slice e2 k2 f2, .int .i64 q2]) := by
    rw [hX2]
    exact ⟨below_set4 (HZ1.out.1.trans (hb9.mono HZ1.out.1.size)) HB1.out _ _ _ _, stN.weaken (stN.olies (stN.osame ho9 (.set4 HZ1.out.2.2))) (Nat.zero_le _), (((hx9.set 0 _).set 1 _).set 2 _).set 3 _⟩
  obtain ⟨g0, g1, g2, g3, l0, l1, l2, l3⟩ := hx9.four
  clear ho9 hb9 hx9 HC1 HX1 HZ1
  go_upto_region 3 with fail
  rw [← hX2]
  clear hX2 g0 g1 g2 g3 l0 l1 l2 l3
  have HC2 := seal_any 0 [.slice a2 n2 c2, .slice b2 m2 d2, .slice e2 k2 f2, .int .i64 q2] x2 X2 HX2.out.2.1
  rw [e3.1, e3.2.1, e3.2.2] at HC2
  have HZ2 : Hid (Below w.heap.size w X2 ∧ Box X2 w1.heap.size 33 #[.slice a2 n2 c2, .slice b2 m2 d2, .slice e2 k2 f2, .int .i64 q2] ∧ w1.heap.size < X2.heap.size) := ⟨HX2.out.1, HX2.out.2.2, HX2.out.2.2.lt⟩
  obtain ⟨g0, g1, g2, g3, -⟩ := HX2.out.2.2.four
  go_wp2_with fail
  clear g0 g1 g2 g3
  refine HC2.mono ?_
  rintro e9 w3 ⟨⟨us9, rfl, ho9⟩, hb9⟩
  obtain ⟨a3, n3, c3, b3, m3, d3, e3, k3, f3, q3, rfl⟩ := st_flat ho9
  have hx9 := HZ2.out.2.1.below hb9 HZ2.out.2.1.lt
  obtain ⟨X3, hX3⟩ : ∃ X, X = (((w3.setCell ⟨w1.heap.size, 0, none⟩ (.slice a3 n3 c3)).setCell ⟨w1.heap.size, 1, none⟩ (.slice b3 m3 d3)).setCell ⟨w1.heap.size, 2, none⟩ (.slice e3 k3 f3)).setCell ⟨w1.heap.size, 3, none⟩ (.int .i64 q3) := ⟨_, rfl⟩
  have HX3 : Hid (Below w.heap.size w X3 ∧ stN.lies 0 X3 [.slice a3 n3 c3, .slice b3 m3 d3, .slice e3 k3 f3, .int .i64 q3] x3 ∧ Box X3 w1.heap.size 33 #[.slice a3 n3 c3, .slice b3 m3 d3, .slice e3 k3 f3, .int .i64 q3]) := by
    rw [hX3]
    exact ⟨below_set4 (HZ2.out.1.trans (hb9.mono HZ2.out.1.size)) HB1.out _ _ _ _, stN.weaken (stN.olies (stN.osame ho9 (.set4 HZ2.out.2.2))) (Nat.zero_le _), (((hx9.set 0 _).set 1 _).set 2 _).set 3 _⟩
  obtain ⟨g0, g1, g2, g3, l0, l1, l2, l3⟩ := hx9.four
  clear ho9 hb9 hx9 HC2 HX2 HZ2
  go_upto_region 4 with fail
  rw [← hX3]
  clear hX3 g0 g1 g2 g3 l0 l1 l2 l3
  obtain ⟨Y3, hY3⟩ : ∃ Y, Y = X3.alloc (.cells #[.int .u8 98] 5) := ⟨_, rfl⟩
  have hbY3 : Below X3.heap.size X3 Y3 := by rw [hY3]; exact (Below.refl _ _).alloc (Nat.le_refl _) _
  have hxY3 : Box Y3 X3.heap.size 5 #[.int .u8 98] := by rw [hY3]; exact Box.new _ _ _
  have hAY3 : Arg X3.heap.size Y3 (.slice (some ⟨X3.heap.size, 0, none⟩) 1 1) [98] := Arg.mk (Cells.box hxY3 rfl (by unfold maxLen; omega) (Nat.le_refl _)) (fun x hx => by
    obtain rfl := List.mem_singleton.1 hx
    decide)
  obtain ⟨Z3, hcvt3, hbZ3, hcel3⟩ := conv_mark Y3 X3.heap.size 1 1 _ hxY3
  have hbb3 : Below X3.heap.size X3 Z3 := hbY3.trans hbZ3
  have HC3 := put_any 0 0 [.slice a3 n3 c3, .slice b3 m3 d3, .slice e3 k3 f3, .int .i64 q3] x3 [.int .i64 1, .int .i64 0, .slice (some ⟨X3.heap.size, 0, none⟩) 1 1] (1, 0, [98]) Z3 (stN.below HX3.out.2.1 hbb3) (bk_mk (p := (1, 0, [98])) ((hAY3.same hcel3).weaken (Nat.zero_le _)) ⟨by show _ ≤ (1 : Int); omega, by show (1 : Int) ≤ _; omega⟩ ⟨by show _ ≤ (0 : Int); omega, by show (0 : Int) ≤ _; omega⟩) (Nat.zero_le _)
  rw [e4.1, e4.2] at HC3
  have HZ3 : Hid (Below w.heap.size w Z3 ∧ Box Z3 w1.heap.size 33 #[.slice a3 n3 c3, .slice b3 m3 d3, .slice e3 k3 f3, .int .i64 q3] ∧ w1.heap.size < Z3.heap.size) := ⟨HX3.out.1.trans (hbb3.mono HX3.out.1.size), HX3.out.2.2.below hbb3 HX3.out.2.2.lt, Nat.lt_of_lt_of_le HX3.out.2.2.lt hbb3.size⟩
  rw [hY3] at hcvt3
  obtain ⟨g0, g1, g2, g3, -⟩ := HX3.out.2.2.four
  clear hY3 hbY3 hxY3 hAY3 hbZ3 hcel3 hbb3
  go_wp2_with fail
  clear hcvt3 g0 g1 g2 g3
  refine HC3.mono ?_
  rintro e9 w4 ⟨⟨us9, rfl, ho9⟩, hb9⟩
  obtain ⟨a4, n4, c4, b4, m4, d4, e4, k4, f4, q4, rfl⟩ := st_flat ho9
  have hx9 := HZ3.out.2.1.below hb9 HZ3.out.2.1.lt
  obtain ⟨X4, hX4⟩ : ∃ X, X = (((w4.setCell ⟨w1.heap.size, 0, none⟩ (.slice a4 n4 c4)).setCell ⟨w1.heap.size, 1, none⟩ (.slice b4 m4 d4)).setCell ⟨w1.heap.size, 2, none⟩ (.slice e4 k4 f4)).setCell ⟨w1.heap.size, 3, none⟩ (.int .i64 q4) := ⟨_, rfl⟩
  have HX4 : Hid (Below w.heap.size w X4 ∧ stN.lies 0 X4 [.slice a4 n4 c4, .slice b4 m4 d4, .slice e4 k4 f4, .int .i64 q4] x4 ∧ Box X4 w1.heap.size 33 #[.slice a4 n4 c4, .slice b4 m4 d4, .slice e4 k4 f4, .int .i64 q4]) := by
    rw [hX4]
    exact ⟨below_set4 (HZ3.out.1.trans (hb9.mono HZ3.out.1.size)) HB1.out _ _ _ _, stN.weaken (stN.olies (stN.osame ho9 (.set4 HZ3.out.2.2))) (Nat.zero_le _), (((hx9.set 0 _).set 1 _).set 2 _).set 3 _⟩
  obtain ⟨g0, g1, g2, g3, l0, l1, l2, l3⟩ := hx9.four
  clear ho9 hb9 hx9 HC3 HX3 HZ3
  go_upto_region 5 with fail
  rw [← hX4]
  clear hX4 g0 g1 g2 g3 l0 l1 l2 l3
  have HC4 := seal_any 0 [.slice a4 n4 c4, .slice b4 m4 d4, .slice e4 k4 f4, .int .i64 q4] x4 X4 HX4.out.2.1
  rw [e5.1, e5.2.1, e5.2.2] at HC4
  have HZ4 : Hid (Below w.heap.size w X4 ∧ Box X4 w1.heap.size 33 #[.slice a4 n4 c4, .slice b4 m4 d4, .slice e4 k4 f4, .int .i64 q4] ∧ w1.heap.size < X4.heap.size) := ⟨HX4.out.1, HX4.out.2.2, HX4.out.2.2.lt⟩
  obtain ⟨g0, g1, g2, g3, -⟩ := HX4.out.2.2.four
  go_wp2_with fail
  clear g0 g1 g2 g3
  refine HC4.mono ?_
  rintro e9 w5 ⟨⟨us9, rfl, ho9⟩, hb9⟩
  obtain ⟨a5, n5, c5, b5, m5, d5, e5, k5, f5, q5, rfl⟩ := st_flat ho9
  have hx9 := HZ4.out.2.1.below hb9 HZ4.out.2.1.lt
  obtain ⟨X5, hX5⟩ : ∃ X, X = (((w5.setCell ⟨w1.heap.size, 0, none⟩ (.slice a5 n5 c5)).setCell ⟨w1.heap.size, 1, none⟩ (.slice b5 m5 d5)).setCell ⟨w1.heap.size, 2, none⟩ (.slice e5 k5 f5)).setCell ⟨w1.heap.size, 3, none⟩ (.int .i64 q5) := ⟨_, rfl⟩
  have HX5 : Hid (Below w.heap.size w X5 ∧ stN.lies 0 X5 [.slice a5 n5 c5, .slice b5 m5 d5, .slice e5 k5 f5, .int .i64 q5] x5 ∧ Box X5 w1.heap.size 33 #[.slice a5 n5 c5, .slice b5 m5 d5, .slice e5 k5 f5, .int .i64 q5]) := by
    rw [hX5]
    exact ⟨below_set4 (HZ4.out.1.trans (hb9.mono HZ4.out.1.size)) HB1.out _ _ _ _, stN.weaken (stN.olies (stN.osame ho9 (.set4 HZ4.out.2.2))) (Nat.zero_le _), (((hx9.set 0 _).set 1 _).set 2 _).set 3 _⟩
  obtain ⟨g0, g1, g2, g3, l0, l1, l2, l3⟩ := hx9.four
  clear ho9 hb9 hx9 HC4 HX4 HZ4
  go_upto_region 6 with fail
  rw [← hX5]
  clear hX5 g0 g1 g2 g3 l0 l1 l2 l3
  have HC5 := liveL_any 0 [.slice a5 n5 c5, .slice b5 m5 d5, .slice e5 k5 f5, .int .i64 q5] x5 0 X5 HX5.out.2.1
  rw [e6.1, e6.2] at HC5
  obtain ⟨g0, g1, g2, g3, -⟩ := HX5.out.2.2.four
  go_wp2_with fail
  clear g0 g1 g2 g3
  refine HC5.mono ?_
  rintro e9 w7 ⟨⟨v7, rfl, ho7⟩, hb7⟩
  obtain ⟨a7, c7, _, hv7, -⟩ := Shape.list_own (S := bkN) (ht := Try.underlying31) (hc := cells31) ho7
  obtain rfl : v7 = .slice a7 0 c7 := (List.cons.inj hv7).1
  have hl7 := run_len Try.underlying31 a7 0 c7
  have HZ5 : Hid (Below w.heap.size w w7 ∧ Box w7 w1.heap.size 33 #[.slice a5 n5 c5, .slice b5 m5 d5, .slice e5 k5 f5, .int .i64 q5] ∧ w1.heap.size < w7.heap.size) := ⟨HX5.out.1.trans (hb7.mono HX5.out.1.size), HX5.out.2.2.below hb7 HX5.out.2.2.lt, Nat.lt_of_lt_of_le HX5.out.2.2.lt hb7.size⟩
  have HC6 := free_any 0 [.slice a5 n5 c5, .slice b5 m5 d5, .slice e5 k5 f5, .int .i64 q5] x5 0 w7 (stN.below HX5.out.2.1 hb7)
  rw [e7.1, e7.2] at HC6
  obtain ⟨g0, g1, g2, g3, -⟩ := HZ5.out.2.1.four
  clear ho7 hb7 hv7 HC5
  go_wp2_with fail
  clear g0 g1 g2 g3
  refine HC6.mono ?_
  rintro e9 w6 ⟨⟨us9, rfl, ho9⟩, hb9⟩
  obtain ⟨a6, n6, c6, b6, m6, d6, e6, k6, f6, q6, rfl⟩ := st_flat ho9
  have hx9 := HZ5.out.2.1.below hb9 HZ5.out.2.1.lt
  obtain ⟨X6, hX6⟩ : ∃ X, X = (((w6.setCell ⟨w1.heap.size, 0, none⟩ (.slice a6 n6 c6)).setCell ⟨w1.heap.size, 1, none⟩ (.slice b6 m6 d6)).setCell ⟨w1.heap.size, 2, none⟩ (.slice e6 k6 f6)).setCell ⟨w1.heap.size, 3, none⟩ (.int .i64 q6) := ⟨_, rfl⟩
  have HX6 : Hid (Below w.heap.size w X6 ∧ stN.lies 0 X6 [.slice a6 n6 c6, .slice b6 m6 d6, .slice e6 k6 f6, .int .i64 q6] x6 ∧ Box X6 w1.heap.size 33 #[.slice a6 n6 c6, .slice b6 m6 d6, .slice e6 k6 f6, .int .i64 q6]) := by
    rw [hX6]
    exact ⟨below_set4 (HZ5.out.1.trans (hb9.mono HZ5.out.1.size)) HB1.out _ _ _ _, stN.weaken (stN.olies (stN.osame ho9 (.set4 HZ5.out.2.2))) (Nat.zero_le _), (((hx9.set 0 _).set 1 _).set 2 _).set 3 _⟩
  obtain ⟨g0, g1, g2, g3, l0, l1, l2, l3⟩ := hx9.four
  clear ho9 hb9 hx9 HC6 HX5 HZ5
  go_upto_region 8 with fail
  rw [← hX6]
  clear hX6 g0 g1 g2 g3 l0 l1 l2 l3
  have HC8 := get_any 0 [.slice a6 n6 c6, .slice b6 m6 d6, .slice e6 k6 f6, .int .i64 q6] x6 1 0 X6 HX6.out.2.1 ⟨by omega, by omega⟩ ⟨by omega, by omega⟩
  rw [e8.1, e8.2] at HC8
  obtain ⟨g0, g1, g2, g3, -⟩ := HX6.out.2.2.four
  go_wp2_with fail
  clear g0 g1 g2 g3
  refine HC8.mono ?_
  rintro e9 w8 ⟨⟨v8, rfl, ho8⟩, hb8⟩
  have hcs := conv_str ho8.arg (by simp)
  rw [show strOfNums [98] = ⟨#[98]⟩ from by decide] at hcs
  have HE : Hid (post (.returned (.bool true)) w8) := HPo.out w8 (HX6.out.1.trans (hb8.mono HX6.out.1.size))
  obtain ⟨a8, c8, hv8⟩ := ho8.shape
  obtain rfl : v8 = .slice a8 1 c8 := hv8
  have HQ := fun x W => num_any x W
  clear ho8 hb8 HC8
  go_wp2_with (go_at_call 18; refine (HQ _ _).mono ?_; rintro e9 w9 ⟨rfl, rfl⟩)
  exact HE.out

end Go.Proofs.Ytkpckadicjdieaa
