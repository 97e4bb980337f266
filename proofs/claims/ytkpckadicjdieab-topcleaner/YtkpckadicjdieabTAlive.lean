/-
  The example of the cleaner's law.
-/
import Derived.Test.YtkpckadicjdieabLAlive
import Derived.Test.YtkpckadicjdieabZ33
import Derived.Test.YtkpckadicjdieabZ27
namespace Go.Proofs.Ytkpckadicjdieab
open Go.RowKit

def y1 : St := (List.replicate 3 (0, []), List.replicate 3 false, [], 1)
def y2 : St := ([(0, []), (0, []), (0, [])], [false, false, false], [(1, 0, [97])], 1)
def y3 : St := ([(1, [(1, 0, [97])]), (0, []), (0, [])], [false, false, false], [], 2)
def y4 : St := ([(0, []), (2, [(1, 0, [97])]), (0, [])], [false, false, false], [], 3)
theorem ye1 : nE 3 = 0 ∧ nS 3 = y1 := ⟨by kernel_rfl, by kernel_rfl⟩
theorem ye2 : pE y1 (1, 0, [97]) = 0 ∧ pS y1 (1, 0, [97]) = y2 := ⟨by kernel_rfl, by kernel_rfl⟩
theorem ye3 : sE y2 = 0 ∧ sP y2 = 0 ∧ sS y2 = y3 := ⟨by kernel_rfl, by kernel_rfl, by kernel_rfl⟩
theorem ye4 : vE y3 = 0 ∧ vA y3 = 0 ∧ vQ y3 = 1 := ⟨by kernel_rfl, by kernel_rfl, by kernel_rfl⟩
theorem ye5 : clE y3 0 1 = 0 ∧ clS y3 0 1 = y4 := ⟨by kernel_rfl, by kernel_rfl⟩
theorem ye6 : gB y4 1 0 = [97] ∧ okE y4 = 0 := ⟨by kernel_rfl, by kernel_rfl⟩

set_option maxRecDepth 100000 in
set_option maxHeartbeats 16000000 in
theorem cleans_any (w : World) : Calls Try.prog 20 #[] w fun e w' => e = .returned (.bool true) ∧ Below w.heap.size w w' := by
  have HC := new_any 3 w
  rw [ye1.1, ye1.2] at HC
  obtain ⟨post, hpost⟩ : ∃ post : Ending → World → Prop, post = fun e w' => e = .returned (.bool true) ∧ Below w.heap.size w w' := ⟨_, rfl⟩
  have HPo : Hid (∀ w', Below w.heap.size w w' → post (.returned (.bool true)) w') := fun w' h => by rw [hpost]; exact ⟨rfl, h⟩
  rw [← hpost]
  clear hpost
  go_enter Try.func20, Try.ntmps20
  go_wp2_with fail
  refine HC.mono ?_
  rintro e9 w1 ⟨⟨us9, rfl, ho9⟩, hb9⟩
  obtain ⟨a1, n1, c1, b1, m1, d1, e1, k1, f1, q1, rfl⟩ := st_fl ho9
  obtain ⟨X1, hX1⟩ : ∃ X, X = w1.alloc (.cells #[.slice a1 n1 c1, .slice b1 m1 d1, .slice e1 k1 f1, .int .i64 q1] 31) := ⟨_, rfl⟩
  have HB1 : Hid (w.heap.size ≤ w1.heap.size) := hb9.size
  have HX1 : Hid (Below w.heap.size w X1 ∧ stN.lies 0 X1 [.slice a1 n1 c1, .slice b1 m1 d1, .slice e1 k1 f1, .int .i64 q1] y1 ∧ Box X1 w1.heap.size 31 #[.slice a1 n1 c1, .slice b1 m1 d1, .slice e1 k1 f1, .int .i64 q1]) := by
    rw [hX1]
    exact ⟨hb9.alloc hb9.size _, stN.weaken (stN.below (stN.olies ho9) ((Below.refl _ _).alloc (Nat.le_refl _) _)) (Nat.zero_le _), Box.new _ _ _⟩
  clear ho9 hb9 HC
  go_upto_region 2 with fail
  rw [← hX1]
  clear hX1
  obtain ⟨Y1, hY1⟩ : ∃ Y, Y = X1.alloc (.cells #[.int .u8 97] 5) := ⟨_, rfl⟩
  have hbY1 : Below X1.heap.size X1 Y1 := by rw [hY1]; exact (Below.refl _ _).alloc (Nat.le_refl _) _
  have hxY1 : Box Y1 X1.heap.size 5 #[.int .u8 97] := by rw [hY1]; exact Box.new _ _ _
  have hAY1 : Arg X1.heap.size Y1 (.slice (some ⟨X1.heap.size, 0, none⟩) 1 1) [97] := Arg.mk (Cells.box hxY1 rfl (by unfold maxLen; omega) (Nat.le_refl _)) (fun x hx => by
    obtain rfl := List.mem_singleton.1 hx
    decide)
  obtain ⟨Z1, hcvt1, hbZ1, hcel1⟩ := conv_mark Y1 X1.heap.size 1 1 _ hxY1
  have hbb1 : Below X1.heap.size X1 Z1 := hbY1.trans hbZ1
  have HC := put_any 0 0 [.slice a1 n1 c1, .slice b1 m1 d1, .slice e1 k1 f1, .int .i64 q1] y1 [.int .i64 1, .int .i64 0, .slice (some ⟨X1.heap.size, 0, none⟩) 1 1] (1, 0, [97]) Z1 (stN.below HX1.out.2.1 hbb1) (bk_mk (p := (1, 0, [97])) ((hAY1.same hcel1).weaken (Nat.zero_le _)) ⟨by show _ ≤ (1 : Int); omega, by show (1 : Int) ≤ _; omega⟩ ⟨by show _ ≤ (0 : Int); omega, by show (0 : Int) ≤ _; omega⟩) (Nat.zero_le _)
  rw [ye2.1, ye2.2] at HC
  have HZ : Hid (Below w.heap.size w Z1 ∧ Box Z1 w1.heap.size 31 #[.slice a1 n1 c1, .slice b1 m1 d1, .slice e1 k1 f1, .int .i64 q1] ∧ w1.heap.size < Z1.heap.size) := ⟨HX1.out.1.trans (hbb1.mono HX1.out.1.size), HX1.out.2.2.below hbb1 HX1.out.2.2.lt, Nat.lt_of_lt_of_le HX1.out.2.2.lt hbb1.size⟩
  rw [hY1] at hcvt1
  obtain ⟨g0, g1, g2, g3, -⟩ := HX1.out.2.2.four
  clear hY1 hbY1 hxY1 hAY1 hbZ1 hcel1 hbb1
  go_wp2_with fail
  clear hcvt1 g0 g1 g2 g3
  refine HC.mono ?_
  rintro e9 w2 ⟨⟨us9, rfl, ho9⟩, hb9⟩
  obtain ⟨a2, n2, c2, b2, m2, d2, e2, k2, f2, q2, rfl⟩ := st_fl ho9
  have hx9 := HZ.out.2.1.below hb9 HZ.out.2.1.lt
  obtain ⟨X2, hX2⟩ : ∃ X, X = (((w2.setCell ⟨w1.heap.size, 0, none⟩ (.slice a2 n2 c2)).setCell ⟨w1.heap.size, 1, none⟩ (.slice b2 m2 d2)).setCell ⟨w1.heap.size, 2, none⟩ (.slice e2 k2 f2)).setCell ⟨w1.heap.size, 3, none⟩ (.int .i64 q2) := ⟨_, rfl⟩
  have HX2 : Hid (Below w.heap.size w X2 ∧ stN.lies 0 X2 [.slice a2 n2 c2, .slice b2 m2 d2, .slice e2 k2 f2, .int .i64 q2] y2 ∧ Box X2 w1.heap.size 31 #[.slice a2 n2 c2, .slice b2 m2 d2, .slice e2 k2 f2, .int .i64 q2]) := by
    rw [hX2]
    exact ⟨below_set4 (HZ.out.1.trans (hb9.mono HZ.out.1.size)) HB1.out _ _ _ _, stN.weaken (stN.olies (stN.osame ho9 (.set4 HZ.out.2.2))) (Nat.zero_le _), (((hx9.set 0 _).set 1 _).set 2 _).set 3 _⟩
  obtain ⟨g0, g1, g2, g3, l0, l1, l2, l3⟩ := hx9.four
  clear ho9 hb9 hx9 HC HZ
  go_upto_region 3 with fail
  rw [← hX2]
  clear hX2 g0 g1 g2 g3 l0 l1 l2 l3
  have HC := seal_any 0 [.slice a2 n2 c2, .slice b2 m2 d2, .slice e2 k2 f2, .int .i64 q2] y2 X2 HX2.out.2.1
  rw [ye3.1, ye3.2.1, ye3.2.2] at HC
  have HZ : Hid (Below w.heap.size w X2 ∧ Box X2 w1.heap.size 31 #[.slice a2 n2 c2, .slice b2 m2 d2, .slice e2 k2 f2, .int .i64 q2] ∧ w1.heap.size < X2.heap.size) := ⟨HX2.out.1, HX2.out.2.2, HX2.out.2.2.lt⟩
  obtain ⟨g0, g1, g2, g3, -⟩ := HX2.out.2.2.four
  go_wp2_with fail
  clear g0 g1 g2 g3
  refine HC.mono ?_
  rintro e9 w3 ⟨⟨us9, rfl, ho9⟩, hb9⟩
  obtain ⟨a3, n3, c3, b3, m3, d3, e3, k3, f3, q3, rfl⟩ := st_fl ho9
  have hx9 := HZ.out.2.1.below hb9 HZ.out.2.1.lt
  obtain ⟨X3, hX3⟩ : ∃ X, X = (((w3.setCell ⟨w1.heap.size, 0, none⟩ (.slice a3 n3 c3)).setCell ⟨w1.heap.size, 1, none⟩ (.slice b3 m3 d3)).setCell ⟨w1.heap.size, 2, none⟩ (.slice e3 k3 f3)).setCell ⟨w1.heap.size, 3, none⟩ (.int .i64 q3) := ⟨_, rfl⟩
  have HX3 : Hid (Below w.heap.size w X3 ∧ stN.lies 0 X3 [.slice a3 n3 c3, .slice b3 m3 d3, .slice e3 k3 f3, .int .i64 q3] y3 ∧ Box X3 w1.heap.size 31 #[.slice a3 n3 c3, .slice b3 m3 d3, .slice e3 k3 f3, .int .i64 q3]) := by
    rw [hX3]
    exact ⟨below_set4 (HZ.out.1.trans (hb9.mono HZ.out.1.size)) HB1.out _ _ _ _, stN.weaken (stN.olies (stN.osame ho9 (.set4 HZ.out.2.2))) (Nat.zero_le _), (((hx9.set 0 _).set 1 _).set 2 _).set 3 _⟩
  obtain ⟨g0, g1, g2, g3, l0, l1, l2, l3⟩ := hx9.four
  clear ho9 hb9 hx9 HC HZ
  go_upto_region 4 with fail
  rw [← hX3]
  clear hX3 g0 g1 g2 g3 l0 l1 l2 l3
  have HC := victim_any 0 [.slice a3 n3 c3, .slice b3 m3 d3, .slice e3 k3 f3, .int .i64 q3] y3 X3 HX3.out.2.1
  rw [ye4.1, ye4.2.1, ye4.2.2] at HC
  obtain ⟨g0, g1, g2, g3, -⟩ := HX3.out.2.2.four
  go_wp2_with fail
  clear g0 g1 g2 g3
  refine HC.mono ?_
  rintro e9 wv ⟨rfl, hb9⟩
  obtain ⟨Xv, hXv⟩ : ∃ X, X = wv.alloc (.cells #[.int .i64 0, .int .i64 1] 34) := ⟨_, rfl⟩
  have hbv : Below X3.heap.size X3 Xv := by rw [hXv]; exact below_any hb9 ((Below.refl _ _).alloc (Nat.le_refl _) _)
  have hxr : Box Xv wv.heap.size 34 #[.int .i64 0, .int .i64 1] := by rw [hXv]; exact Box.new _ _ _
  have HZ : Hid (Below w.heap.size w Xv ∧ Box Xv w1.heap.size 31 #[.slice a3 n3 c3, .slice b3 m3 d3, .slice e3 k3 f3, .int .i64 q3] ∧ w1.heap.size < Xv.heap.size) := ⟨HX3.out.1.trans (hbv.mono HX3.out.1.size), HX3.out.2.2.below hbv HX3.out.2.2.lt, Nat.lt_of_lt_of_le HX3.out.2.2.lt hbv.size⟩
  clear HC hb9
  go_upto_region 5 with fail
  rw [← hXv]
  clear hXv
  have HC := clean_any 0 [.slice a3 n3 c3, .slice b3 m3 d3, .slice e3 k3 f3, .int .i64 q3] y3 0 1 Xv (stN.below HX3.out.2.1 hbv)
  rw [ye5.1, ye5.2] at HC
  obtain ⟨g0, g1, g2, g3, -⟩ := HZ.out.2.1.four
  obtain ⟨r0, r1, -⟩ := hxr.two
  clear hbv hxr
  go_wp2_with fail
  clear g0 g1 g2 g3 r0 r1
  refine HC.mono ?_
  rintro e9 w4 ⟨⟨us9, rfl, ho9⟩, hb9⟩
  obtain ⟨a4, n4, c4, b4, m4, d4, e4, k4, f4, q4, rfl⟩ := st_fl ho9
  have hx9 := HZ.out.2.1.below hb9 HZ.out.2.1.lt
  obtain ⟨X4, hX4⟩ : ∃ X, X = (((w4.setCell ⟨w1.heap.size, 0, none⟩ (.slice a4 n4 c4)).setCell ⟨w1.heap.size, 1, none⟩ (.slice b4 m4 d4)).setCell ⟨w1.heap.size, 2, none⟩ (.slice e4 k4 f4)).setCell ⟨w1.heap.size, 3, none⟩ (.int .i64 q4) := ⟨_, rfl⟩
  have HX4 : Hid (Below w.heap.size w X4 ∧ stN.lies 0 X4 [.slice a4 n4 c4, .slice b4 m4 d4, .slice e4 k4 f4, .int .i64 q4] y4 ∧ Box X4 w1.heap.size 31 #[.slice a4 n4 c4, .slice b4 m4 d4, .slice e4 k4 f4, .int .i64 q4]) := by
    rw [hX4]
    exact ⟨below_set4 (HZ.out.1.trans (hb9.mono HZ.out.1.size)) HB1.out _ _ _ _, stN.weaken (stN.olies (stN.osame ho9 (.set4 HZ.out.2.2))) (Nat.zero_le _), (((hx9.set 0 _).set 1 _).set 2 _).set 3 _⟩
  obtain ⟨g0, g1, g2, g3, l0, l1, l2, l3⟩ := hx9.four
  clear ho9 hb9 hx9 HC HZ
  go_upto_region 6 with fail
  rw [← hX4]
  clear hX4 g0 g1 g2 g3 l0 l1 l2 l3
  have HC8 := get_any 0 [.slice a4 n4 c4, .slice b4 m4 d4, .slice e4 k4 f4, .int .i64 q4] y4 1 0 X4 HX4.out.2.1 ⟨by omega, by omega⟩ ⟨by omega, by omega⟩
  rw [ye6.1, ye6.2] at HC8
  obtain ⟨g0, g1, g2, g3, -⟩ := HX4.out.2.2.four
  go_wp2_with fail
  clear g0 g1 g2 g3
  refine HC8.mono ?_
  rintro e9 w8 ⟨⟨v8, rfl, ho8⟩, hb8⟩
  have hcs := conv_str ho8.arg (by simp)
  rw [show strOfNums [97] = ⟨#[97]⟩ from by decide] at hcs
  have HE : Hid (post (.returned (.bool true)) w8) := HPo.out w8 (HX4.out.1.trans (hb8.mono HX4.out.1.size))
  obtain ⟨a8, c8, hv8⟩ := ho8.shape
  obtain rfl : v8 = .slice a8 1 c8 := hv8
  clear ho8 hb8 HC8
  go_wp2
  exact HE.out

end Go.Proofs.Ytkpckadicjdieab
