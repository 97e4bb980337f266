/-
  CleanTells, proved: for every store, every record and every three numbers (as great as the form reads them): the call returns true, and changes nothing that was in memory. No condition of its own.
-/
import Derived.Test.YtkpckadicjdieaaZ16
import Derived.Test.YtkpckadicjdieaaZ12
import Derived.Test.YtkpckadicjdieaaZ13
import Derived.Test.YtkpckadicjdieaaZ14
import Derived.Test.YtkpckadicjdieaaZ2
namespace Go.Proofs.Ytkpckadicjdieaa.cleanTells
open Go.ChangeShapes Go.WideShapes Go.ChangeAt Go.RowKit
set_option linter.unusedVariables false

set_option maxRecDepth 100000 in
set_option maxHeartbeats 32000000 in
theorem walk (n0 n1 : Nat) (us ur : List Value) (s : St) (r : Int × Int) (x y z : Int) (w : World) (h : stR.lies n0 w us s) (hf : FitsL s) (hr : recR.lies n1 w ur r) (hx : I64 x) (hy : I64 y) (hz : I64 z) :
    Calls Try.prog 7 #[.agg us.toArray, .agg ur.toArray, .int .i64 x, .int .i64 y, .int .i64 z] w fun e w' => e = .returned (.bool true) ∧ Below w.heap.size w w' := by
  obtain ⟨post, hpost⟩ : ∃ post : Ending → World → Prop, post = fun e w' => e = .returned (.bool true) ∧ Below w.heap.size w w' := ⟨_, rfl⟩
  have HPo : Hid (∀ w', Below w.heap.size w w' → post (.returned (.bool true)) w') := fun w' h => by rw [hpost]; exact ⟨rfl, h⟩
  rw [← hpost]
  clear hpost
  obtain ⟨a0, n0, c0, b0, m0, d0, e0, k0, f0, q0, rfl⟩ := st_flatL h
  obtain ⟨rfl, -, -⟩ := rec_view hr
  obtain ⟨k, q⟩ := r
  simp only
  have HF : Hid (FitsL s) := hf
  obtain ⟨W, hW⟩ : ∃ W, W = (w.alloc (.cells #[.slice a0 n0 c0, .slice b0 m0 d0, .slice e0 k0 f0, .int .i64 q0] 26)).alloc (.cells #[.int .i64 k, .int .i64 q] 69) := ⟨_, rfl⟩
  have HB : Hid (Below w.heap.size w W) := by rw [hW]; exact ((Below.refl _ _).alloc (Nat.le_refl _) _).alloc (by simp) _
  have A0 : Hid (Box W w.heap.size 26 #[.slice a0 n0 c0, .slice b0 m0 d0, .slice e0 k0 f0, .int .i64 q0] ∧ stR.lies 0 W [.slice a0 n0 c0, .slice b0 m0 d0, .slice e0 k0 f0, .int .i64 q0] s) := ⟨by rw [hW]; exact (Box.new _ _ _).alloc _, stR.below (stR.weaken h (Nat.zero_le _)) HB.out⟩
  have R0 : Hid (Box W (w.heap.size + 1) 69 #[.int .i64 k, .int .i64 q]) := by
    rw [hW]
    have := Box.new (w.alloc (.cells #[.slice a0 n0 c0, .slice b0 m0 d0, .slice e0 k0 f0, .int .i64 q0] 26)) 69 #[.int .i64 k, .int .i64 q]
    rwa [World.size_alloc] at this
  have HI : Hid (I64 x ∧ I64 y ∧ I64 z) := ⟨hx, hy, hz⟩
  clear hx hy hz
  obtain ⟨sc, h1⟩ : ∃ z', z' = scV x y z := ⟨_, rfl⟩
  obtain ⟨se, h2⟩ : ∃ z', z' = scE x y z := ⟨_, rfl⟩
  obtain ⟨vn, h3⟩ : ∃ z, z = vA s := ⟨_, rfl⟩
  obtain ⟨vv, h4⟩ : ∃ z, z = vQ s := ⟨_, rfl⟩
  obtain ⟨ve, h5⟩ : ∃ z, z = vE s := ⟨_, rfl⟩
  obtain ⟨ce, h6⟩ : ∃ z, z = clE s k q := ⟨_, rfl⟩
  obtain ⟨rn, h7⟩ : ∃ z, z = rmV s := ⟨_, rfl⟩
  obtain ⟨oe, h8⟩ : ∃ z, z = okE s := ⟨_, rfl⟩
  have HE : Hid (sc = scV x y z ∧ se = scE x y z ∧ vn = vA s ∧ vv = vQ s ∧ ve = vE s ∧ ce = clE s k q ∧ rn = rmV s ∧ oe = okE s) := ⟨h1, h2, h3, h4, h5, h6, h7, h8⟩
  clear h1 h2 h3 h4 h5 h6 h7 h8
  clear h hf hr
  go_enter Try.func7, Try.ntmps7
  go_upto_region 1 with fail
  rw [← hW]
  clear hW
  have HC := ofL_any 0 [.slice a0 n0 c0, .slice b0 m0 d0, .slice e0 k0 f0, .int .i64 q0] s W A0.out.2 HF.out
  obtain ⟨A0c0, A0c1, A0c2, A0c3, -⟩ := A0.out.1.four
  go_wp2_with (go_at_call 36; refine (num16_any _ _).mono ?_; rintro e9 wn ⟨rfl, rfl⟩)
  clear A0c0 A0c1 A0c2 A0c3
  refine HC.mono ?_
  rintro e9 w1 ⟨⟨us9, rfl, ho9⟩, hb9⟩
  obtain ⟨a1, n1, c1, b1, m1, d1, e1, k1, f1, q1, rfl⟩ := st_fl ho9
  replace A0 : Hid (Box w1 w.heap.size 26 #[.slice a0 n0 c0, .slice b0 m0 d0, .slice e0 k0 f0, .int .i64 q0] ∧ stR.lies 0 w1 [.slice a0 n0 c0, .slice b0 m0 d0, .slice e0 k0 f0, .int .i64 q0] s) := ⟨A0.out.1.below hb9 A0.out.1.lt, stR.below A0.out.2 hb9⟩
  replace R0 : Hid (Box w1 (w.heap.size + 1) 69 #[.int .i64 k, .int .i64 q]) := R0.out.below hb9 R0.out.lt
  replace HB : Hid (Below w.heap.size w w1) := below_any HB.out hb9
  obtain ⟨X1, hX1⟩ : ∃ X, X = w1.alloc (.cells #[.slice a1 n1 c1, .slice b1 m1 d1, .slice e1 k1 f1, .int .i64 q1] 33) := ⟨_, rfl⟩
  have hbX : Below w1.heap.size w1 X1 := by rw [hX1]; exact (Below.refl _ _).alloc (Nat.le_refl _) _
  have A1 : Hid (Box X1 w1.heap.size 33 #[.slice a1 n1 c1, .slice b1 m1 d1, .slice e1 k1 f1, .int .i64 q1] ∧ stN.lies 0 X1 [.slice a1 n1 c1, .slice b1 m1 d1, .slice e1 k1 f1, .int .i64 q1] s) := ⟨by rw [hX1]; exact Box.new _ _ _, stN.below (stN.weaken (stN.olies ho9) (Nat.zero_le _)) hbX⟩
  replace A0 : Hid (Box X1 w.heap.size 26 #[.slice a0 n0 c0, .slice b0 m0 d0, .slice e0 k0 f0, .int .i64 q0] ∧ stR.lies 0 X1 [.slice a0 n0 c0, .slice b0 m0 d0, .slice e0 k0 f0, .int .i64 q0] s) := ⟨A0.out.1.below hbX A0.out.1.lt, stR.below A0.out.2 hbX⟩
  replace R0 : Hid (Box X1 (w.heap.size + 1) 69 #[.int .i64 k, .int .i64 q]) := R0.out.below hbX R0.out.lt
  replace HB : Hid (Below w.heap.size w X1) := below_any HB.out hbX
  clear HC ho9 hb9 hbX
  go_upto_region 2 with fail
  rw [← hX1]
  clear hX1
  have HC := score_any x y z X1 HI.out.1 HI.out.2.1 HI.out.2.2
  rw [← HE.out.1] at HC
  rw [← HE.out.2.1] at HC
  go_wp2_with (go_at_call 36; refine (num16_any _ _).mono ?_; rintro e9 wn ⟨rfl, rfl⟩)
  refine HC.mono ?_
  rintro e9 w9 ⟨rfl, rfl⟩
  clear HC
  have HC := rscore_any x y z X1 HI.out.1 HI.out.2.1 HI.out.2.2
  rw [← HE.out.1] at HC
  rw [← HE.out.2.1] at HC
  go_wp2_with (go_at_call 36; refine (num16_any _ _).mono ?_; rintro e9 wn ⟨rfl, rfl⟩)
  refine HC.mono ?_
  rintro e9 w9 ⟨rfl, rfl⟩
  clear HC
  have HC := victim_any 0 [.slice a1 n1 c1, .slice b1 m1 d1, .slice e1 k1 f1, .int .i64 q1] s X1 A1.out.2
  rw [← HE.out.2.2.1] at HC
  rw [← HE.out.2.2.2.1] at HC
  rw [← HE.out.2.2.2.2.1] at HC
  obtain ⟨A1c0, A1c1, A1c2, A1c3, -⟩ := A1.out.1.four
  go_wp2_with (go_at_call 36; refine (num16_any _ _).mono ?_; rintro e9 wn ⟨rfl, rfl⟩)
  clear A1c0 A1c1 A1c2 A1c3
  refine HC.mono ?_
  rintro e9 w2 ⟨rfl, hb9⟩
  replace A0 : Hid (Box w2 w.heap.size 26 #[.slice a0 n0 c0, .slice b0 m0 d0, .slice e0 k0 f0, .int .i64 q0] ∧ stR.lies 0 w2 [.slice a0 n0 c0, .slice b0 m0 d0, .slice e0 k0 f0, .int .i64 q0] s) := ⟨A0.out.1.below hb9 A0.out.1.lt, stR.below A0.out.2 hb9⟩
  replace R0 : Hid (Box w2 (w.heap.size + 1) 69 #[.int .i64 k, .int .i64 q]) := R0.out.below hb9 R0.out.lt
  replace A1 : Hid (Box w2 w1.heap.size 33 #[.slice a1 n1 c1, .slice b1 m1 d1, .slice e1 k1 f1, .int .i64 q1] ∧ stN.lies 0 w2 [.slice a1 n1 c1, .slice b1 m1 d1, .slice e1 k1 f1, .int .i64 q1] s) := ⟨A1.out.1.below hb9 A1.out.1.lt, stN.below A1.out.2 hb9⟩
  replace HB : Hid (Below w.heap.size w w2) := below_any HB.out hb9
  obtain ⟨X2, hX2⟩ : ∃ X, X = w2.alloc (.cells #[.int .i64 (vn : Int), .int .i64 vv] 74) := ⟨_, rfl⟩
  have hbX : Below w2.heap.size w2 X2 := by rw [hX2]; exact (Below.refl _ _).alloc (Nat.le_refl _) _
  have V1 : Hid (Box X2 w2.heap.size 74 #[.int .i64 (vn : Int), .int .i64 vv]) := by rw [hX2]; exact Box.new _ _ _
  replace A0 : Hid (Box X2 w.heap.size 26 #[.slice a0 n0 c0, .slice b0 m0 d0, .slice e0 k0 f0, .int .i64 q0] ∧ stR.lies 0 X2 [.slice a0 n0 c0, .slice b0 m0 d0, .slice e0 k0 f0, .int .i64 q0] s) := ⟨A0.out.1.below hbX A0.out.1.lt, stR.below A0.out.2 hbX⟩
  replace R0 : Hid (Box X2 (w.heap.size + 1) 69 #[.int .i64 k, .int .i64 q]) := R0.out.below hbX R0.out.lt
  replace A1 : Hid (Box X2 w1.heap.size 33 #[.slice a1 n1 c1, .slice b1 m1 d1, .slice e1 k1 f1, .int .i64 q1] ∧ stN.lies 0 X2 [.slice a1 n1 c1, .slice b1 m1 d1, .slice e1 k1 f1, .int .i64 q1] s) := ⟨A1.out.1.below hbX A1.out.1.lt, stN.below A1.out.2 hbX⟩
  replace HB : Hid (Below w.heap.size w X2) := below_any HB.out hbX
  clear HC hb9 hbX
  go_upto_region 5 with fail
  rw [← hX2]
  clear hX2
  have HC := rvictim_any 0 [.slice a0 n0 c0, .slice b0 m0 d0, .slice e0 k0 f0, .int .i64 q0] s X2 A0.out.2
  rw [← HE.out.2.2.1] at HC
  rw [← HE.out.2.2.2.1] at HC
  rw [← HE.out.2.2.2.2.1] at HC
  obtain ⟨A0c0, A0c1, A0c2, A0c3, -⟩ := A0.out.1.four
  go_wp2_with (go_at_call 36; refine (num16_any _ _).mono ?_; rintro e9 wn ⟨rfl, rfl⟩)
  clear A0c0 A0c1 A0c2 A0c3
  refine HC.mono ?_
  rintro e9 w3 ⟨rfl, hb9⟩
  replace A0 : Hid (Box w3 w.heap.size 26 #[.slice a0 n0 c0, .slice b0 m0 d0, .slice e0 k0 f0, .int .i64 q0] ∧ stR.lies 0 w3 [.slice a0 n0 c0, .slice b0 m0 d0, .slice e0 k0 f0, .int .i64 q0] s) := ⟨A0.out.1.below hb9 A0.out.1.lt, stR.below A0.out.2 hb9⟩
  replace R0 : Hid (Box w3 (w.heap.size + 1) 69 #[.int .i64 k, .int .i64 q]) := R0.out.below hb9 R0.out.lt
  replace A1 : Hid (Box w3 w1.heap.size 33 #[.slice a1 n1 c1, .slice b1 m1 d1, .slice e1 k1 f1, .int .i64 q1] ∧ stN.lies 0 w3 [.slice a1 n1 c1, .slice b1 m1 d1, .slice e1 k1 f1, .int .i64 q1] s) := ⟨A1.out.1.below hb9 A1.out.1.lt, stN.below A1.out.2 hb9⟩
  replace V1 : Hid (Box w3 w2.heap.size 74 #[.int .i64 (vn : Int), .int .i64 vv]) := V1.out.below hb9 V1.out.lt
  replace HB : Hid (Below w.heap.size w w3) := below_any HB.out hb9
  obtain ⟨X3, hX3⟩ : ∃ X, X = w3.alloc (.cells #[.int .i64 (vn : Int), .int .i64 vv] 69) := ⟨_, rfl⟩
  have hbX : Below w3.heap.size w3 X3 := by rw [hX3]; exact (Below.refl _ _).alloc (Nat.le_refl _) _
  have V2 : Hid (Box X3 w3.heap.size 69 #[.int .i64 (vn : Int), .int .i64 vv]) := by rw [hX3]; exact Box.new _ _ _
  replace A0 : Hid (Box X3 w.heap.size 26 #[.slice a0 n0 c0, .slice b0 m0 d0, .slice e0 k0 f0, .int .i64 q0] ∧ stR.lies 0 X3 [.slice a0 n0 c0, .slice b0 m0 d0, .slice e0 k0 f0, .int .i64 q0] s) := ⟨A0.out.1.below hbX A0.out.1.lt, stR.below A0.out.2 hbX⟩
  replace R0 : Hid (Box X3 (w.heap.size + 1) 69 #[.int .i64 k, .int .i64 q]) := R0.out.below hbX R0.out.lt
  replace A1 : Hid (Box X3 w1.heap.size 33 #[.slice a1 n1 c1, .slice b1 m1 d1, .slice e1 k1 f1, .int .i64 q1] ∧ stN.lies 0 X3 [.slice a1 n1 c1, .slice b1 m1 d1, .slice e1 k1 f1, .int .i64 q1] s) := ⟨A1.out.1.below hbX A1.out.1.lt, stN.below A1.out.2 hbX⟩
  replace V1 : Hid (Box X3 w2.heap.size 74 #[.int .i64 (vn : Int), .int .i64 vv]) := V1.out.below hbX V1.out.lt
  replace HB : Hid (Below w.heap.size w X3) := below_any HB.out hbX
  clear HC hb9 hbX
  go_upto_region 6 with fail
  rw [← hX3]
  clear hX3
  obtain ⟨R0t0, R0t1, -⟩ := R0.out.two
  have HC := clean_any 0 [.slice a1 n1 c1, .slice b1 m1 d1, .slice e1 k1 f1, .int .i64 q1] s k q X3 A1.out.2
  rw [← HE.out.2.2.2.2.2.1] at HC
  obtain ⟨A1c0, A1c1, A1c2, A1c3, -⟩ := A1.out.1.four
  go_wp2_with (go_at_call 36; refine (num16_any _ _).mono ?_; rintro e9 wn ⟨rfl, rfl⟩)
  clear A1c0 A1c1 A1c2 A1c3
  refine HC.mono ?_
  rintro e9 w4 ⟨⟨us9, rfl, ho9⟩, hb9⟩
  obtain ⟨a2, n2, c2, b2, m2, d2, e2, k2, f2, q2, rfl⟩ := st_fl ho9
  replace A0 : Hid (Box w4 w.heap.size 26 #[.slice a0 n0 c0, .slice b0 m0 d0, .slice e0 k0 f0, .int .i64 q0] ∧ stR.lies 0 w4 [.slice a0 n0 c0, .slice b0 m0 d0, .slice e0 k0 f0, .int .i64 q0] s) := ⟨A0.out.1.below hb9 A0.out.1.lt, stR.below A0.out.2 hb9⟩
  replace R0 : Hid (Box w4 (w.heap.size + 1) 69 #[.int .i64 k, .int .i64 q]) := R0.out.below hb9 R0.out.lt
  replace A1 : Hid (Box w4 w1.heap.size 33 #[.slice a1 n1 c1, .slice b1 m1 d1, .slice e1 k1 f1, .int .i64 q1] ∧ stN.lies 0 w4 [.slice a1 n1 c1, .slice b1 m1 d1, .slice e1 k1 f1, .int .i64 q1] s) := ⟨A1.out.1.below hb9 A1.out.1.lt, stN.below A1.out.2 hb9⟩
  replace V1 : Hid (Box w4 w2.heap.size 74 #[.int .i64 (vn : Int), .int .i64 vv]) := V1.out.below hb9 V1.out.lt
  replace V2 : Hid (Box w4 w3.heap.size 69 #[.int .i64 (vn : Int), .int .i64 vv]) := V2.out.below hb9 V2.out.lt
  replace HB : Hid (Below w.heap.size w w4) := below_any HB.out hb9
  obtain ⟨X4, hX4⟩ : ∃ X, X = w4.alloc (.cells #[.slice a2 n2 c2, .slice b2 m2 d2, .slice e2 k2 f2, .int .i64 q2] 33) := ⟨_, rfl⟩
  have hbX : Below w4.heap.size w4 X4 := by rw [hX4]; exact (Below.refl _ _).alloc (Nat.le_refl _) _
  have A2 : Hid (Box X4 w4.heap.size 33 #[.slice a2 n2 c2, .slice b2 m2 d2, .slice e2 k2 f2, .int .i64 q2] ∧ stN.lies 0 X4 [.slice a2 n2 c2, .slice b2 m2 d2, .slice e2 k2 f2, .int .i64 q2] (clS s k q)) := ⟨by rw [hX4]; exact Box.new _ _ _, stN.below (stN.weaken (stN.olies ho9) (Nat.zero_le _)) hbX⟩
  replace A0 : Hid (Box X4 w.heap.size 26 #[.slice a0 n0 c0, .slice b0 m0 d0, .slice e0 k0 f0, .int .i64 q0] ∧ stR.lies 0 X4 [.slice a0 n0 c0, .slice b0 m0 d0, .slice e0 k0 f0, .int .i64 q0] s) := ⟨A0.out.1.below hbX A0.out.1.lt, stR.below A0.out.2 hbX⟩
  replace R0 : Hid (Box X4 (w.heap.size + 1) 69 #[.int .i64 k, .int .i64 q]) := R0.out.below hbX R0.out.lt
  replace A1 : Hid (Box X4 w1.heap.size 33 #[.slice a1 n1 c1, .slice b1 m1 d1, .slice e1 k1 f1, .int .i64 q1] ∧ stN.lies 0 X4 [.slice a1 n1 c1, .slice b1 m1 d1, .slice e1 k1 f1, .int .i64 q1] s) := ⟨A1.out.1.below hbX A1.out.1.lt, stN.below A1.out.2 hbX⟩
  replace V1 : Hid (Box X4 w2.heap.size 74 #[.int .i64 (vn : Int), .int .i64 vv]) := V1.out.below hbX V1.out.lt
  replace V2 : Hid (Box X4 w3.heap.size 69 #[.int .i64 (vn : Int), .int .i64 vv]) := V2.out.below hbX V2.out.lt
  replace HB : Hid (Below w.heap.size w X4) := below_any HB.out hbX
  clear HC ho9 hb9 hbX
  go_upto_region 7 with fail
  rw [← hX4]
  clear hX4
  clear R0t0 R0t1
  obtain ⟨R0t0, R0t1, -⟩ := R0.out.two
  have HC := rclean_any 0 [.slice a0 n0 c0, .slice b0 m0 d0, .slice e0 k0 f0, .int .i64 q0] s k q X4 A0.out.2
  rw [← HE.out.2.2.2.2.2.1] at HC
  obtain ⟨A0c0, A0c1, A0c2, A0c3, -⟩ := A0.out.1.four
  go_wp2_with (go_at_call 36; refine (num16_any _ _).mono ?_; rintro e9 wn ⟨rfl, rfl⟩)
  clear A0c0 A0c1 A0c2 A0c3
  refine HC.mono ?_
  rintro e9 w5 ⟨⟨us9, rfl, ho9⟩, hb9⟩
  obtain ⟨a3, n3, c3, b3, m3, d3, e3, k3, f3, q3, rfl⟩ := st_flatR ho9
  replace A0 : Hid (Box w5 w.heap.size 26 #[.slice a0 n0 c0, .slice b0 m0 d0, .slice e0 k0 f0, .int .i64 q0] ∧ stR.lies 0 w5 [.slice a0 n0 c0, .slice b0 m0 d0, .slice e0 k0 f0, .int .i64 q0] s) := ⟨A0.out.1.below hb9 A0.out.1.lt, stR.below A0.out.2 hb9⟩
  replace R0 : Hid (Box w5 (w.heap.size + 1) 69 #[.int .i64 k, .int .i64 q]) := R0.out.below hb9 R0.out.lt
  replace A1 : Hid (Box w5 w1.heap.size 33 #[.slice a1 n1 c1, .slice b1 m1 d1, .slice e1 k1 f1, .int .i64 q1] ∧ stN.lies 0 w5 [.slice a1 n1 c1, .slice b1 m1 d1, .slice e1 k1 f1, .int .i64 q1] s) := ⟨A1.out.1.below hb9 A1.out.1.lt, stN.below A1.out.2 hb9⟩
  replace V1 : Hid (Box w5 w2.heap.size 74 #[.int .i64 (vn : Int), .int .i64 vv]) := V1.out.below hb9 V1.out.lt
  replace V2 : Hid (Box w5 w3.heap.size 69 #[.int .i64 (vn : Int), .int .i64 vv]) := V2.out.below hb9 V2.out.lt
  replace A2 : Hid (Box w5 w4.heap.size 33 #[.slice a2 n2 c2, .slice b2 m2 d2, .slice e2 k2 f2, .int .i64 q2] ∧ stN.lies 0 w5 [.slice a2 n2 c2, .slice b2 m2 d2, .slice e2 k2 f2, .int .i64 q2] (clS s k q)) := ⟨A2.out.1.below hb9 A2.out.1.lt, stN.below A2.out.2 hb9⟩
  replace HB : Hid (Below w.heap.size w w5) := below_any HB.out hb9
  obtain ⟨X5, hX5⟩ : ∃ X, X = w5.alloc (.cells #[.slice a3 n3 c3, .slice b3 m3 d3, .slice e3 k3 f3, .int .i64 q3] 26) := ⟨_, rfl⟩
  have hbX : Below w5.heap.size w5 X5 := by rw [hX5]; exact (Below.refl _ _).alloc (Nat.le_refl _) _
  have A3 : Hid (Box X5 w5.heap.size 26 #[.slice a3 n3 c3, .slice b3 m3 d3, .slice e3 k3 f3, .int .i64 q3] ∧ stR.lies 0 X5 [.slice a3 n3 c3, .slice b3 m3 d3, .slice e3 k3 f3, .int .i64 q3] (clS s k q)) := ⟨by rw [hX5]; exact Box.new _ _ _, stR.below (stR.weaken (stR.olies ho9) (Nat.zero_le _)) hbX⟩
  replace A0 : Hid (Box X5 w.heap.size 26 #[.slice a0 n0 c0, .slice b0 m0 d0, .slice e0 k0 f0, .int .i64 q0] ∧ stR.lies 0 X5 [.slice a0 n0 c0, .slice b0 m0 d0, .slice e0 k0 f0, .int .i64 q0] s) := ⟨A0.out.1.below hbX A0.out.1.lt, stR.below A0.out.2 hbX⟩
  replace R0 : Hid (Box X5 (w.heap.size + 1) 69 #[.int .i64 k, .int .i64 q]) := R0.out.below hbX R0.out.lt
  replace A1 : Hid (Box X5 w1.heap.size 33 #[.slice a1 n1 c1, .slice b1 m1 d1, .slice e1 k1 f1, .int .i64 q1] ∧ stN.lies 0 X5 [.slice a1 n1 c1, .slice b1 m1 d1, .slice e1 k1 f1, .int .i64 q1] s) := ⟨A1.out.1.below hbX A1.out.1.lt, stN.below A1.out.2 hbX⟩
  replace V1 : Hid (Box X5 w2.heap.size 74 #[.int .i64 (vn : Int), .int .i64 vv]) := V1.out.below hbX V1.out.lt
  replace V2 : Hid (Box X5 w3.heap.size 69 #[.int .i64 (vn : Int), .int .i64 vv]) := V2.out.below hbX V2.out.lt
  replace A2 : Hid (Box X5 w4.heap.size 33 #[.slice a2 n2 c2, .slice b2 m2 d2, .slice e2 k2 f2, .int .i64 q2] ∧ stN.lies 0 X5 [.slice a2 n2 c2, .slice b2 m2 d2, .slice e2 k2 f2, .int .i64 q2] (clS s k q)) := ⟨A2.out.1.below hbX A2.out.1.lt, stN.below A2.out.2 hbX⟩
  replace HB : Hid (Below w.heap.size w X5) := below_any HB.out hbX
  clear HC ho9 hb9 hbX
  go_upto_region 8 with fail
  rw [← hX5]
  clear hX5
  clear R0t0 R0t1
  have HC := room_any 0 [.slice a1 n1 c1, .slice b1 m1 d1, .slice e1 k1 f1, .int .i64 q1] s X5 A1.out.2
  rw [← HE.out.2.2.2.2.2.2.1] at HC
  rw [← HE.out.2.2.2.2.2.2.2] at HC
  obtain ⟨A1c0, A1c1, A1c2, A1c3, -⟩ := A1.out.1.four
  go_wp2_with (go_at_call 36; refine (num16_any _ _).mono ?_; rintro e9 wn ⟨rfl, rfl⟩)
  clear A1c0 A1c1 A1c2 A1c3
  refine HC.mono ?_
  rintro e9 w6 ⟨rfl, hb9⟩
  replace A0 : Hid (Box w6 w.heap.size 26 #[.slice a0 n0 c0, .slice b0 m0 d0, .slice e0 k0 f0, .int .i64 q0] ∧ stR.lies 0 w6 [.slice a0 n0 c0, .slice b0 m0 d0, .slice e0 k0 f0, .int .i64 q0] s) := ⟨A0.out.1.below hb9 A0.out.1.lt, stR.below A0.out.2 hb9⟩
  replace R0 : Hid (Box w6 (w.heap.size + 1) 69 #[.int .i64 k, .int .i64 q]) := R0.out.below hb9 R0.out.lt
  replace A1 : Hid (Box w6 w1.heap.size 33 #[.slice a1 n1 c1, .slice b1 m1 d1, .slice e1 k1 f1, .int .i64 q1] ∧ stN.lies 0 w6 [.slice a1 n1 c1, .slice b1 m1 d1, .slice e1 k1 f1, .int .i64 q1] s) := ⟨A1.out.1.below hb9 A1.out.1.lt, stN.below A1.out.2 hb9⟩
  replace V1 : Hid (Box w6 w2.heap.size 74 #[.int .i64 (vn : Int), .int .i64 vv]) := V1.out.below hb9 V1.out.lt
  replace V2 : Hid (Box w6 w3.heap.size 69 #[.int .i64 (vn : Int), .int .i64 vv]) := V2.out.below hb9 V2.out.lt
  replace A2 : Hid (Box w6 w4.heap.size 33 #[.slice a2 n2 c2, .slice b2 m2 d2, .slice e2 k2 f2, .int .i64 q2] ∧ stN.lies 0 w6 [.slice a2 n2 c2, .slice b2 m2 d2, .slice e2 k2 f2, .int .i64 q2] (clS s k q)) := ⟨A2.out.1.below hb9 A2.out.1.lt, stN.below A2.out.2 hb9⟩
  replace A3 : Hid (Box w6 w5.heap.size 26 #[.slice a3 n3 c3, .slice b3 m3 d3, .slice e3 k3 f3, .int .i64 q3] ∧ stR.lies 0 w6 [.slice a3 n3 c3, .slice b3 m3 d3, .slice e3 k3 f3, .int .i64 q3] (clS s k q)) := ⟨A3.out.1.below hb9 A3.out.1.lt, stR.below A3.out.2 hb9⟩
  replace HB : Hid (Below w.heap.size w w6) := below_any HB.out hb9
  clear HC hb9
  have HC := rroom_any 0 [.slice a0 n0 c0, .slice b0 m0 d0, .slice e0 k0 f0, .int .i64 q0] s w6 A0.out.2
  rw [← HE.out.2.2.2.2.2.2.1] at HC
  rw [← HE.out.2.2.2.2.2.2.2] at HC
  obtain ⟨A0c0, A0c1, A0c2, A0c3, -⟩ := A0.out.1.four
  go_wp2_with (go_at_call 36; refine (num16_any _ _).mono ?_; rintro e9 wn ⟨rfl, rfl⟩)
  clear A0c0 A0c1 A0c2 A0c3
  refine HC.mono ?_
  rintro e9 w7 ⟨rfl, hb9⟩
  replace A0 : Hid (Box w7 w.heap.size 26 #[.slice a0 n0 c0, .slice b0 m0 d0, .slice e0 k0 f0, .int .i64 q0] ∧ stR.lies 0 w7 [.slice a0 n0 c0, .slice b0 m0 d0, .slice e0 k0 f0, .int .i64 q0] s) := ⟨A0.out.1.below hb9 A0.out.1.lt, stR.below A0.out.2 hb9⟩
  replace R0 : Hid (Box w7 (w.heap.size + 1) 69 #[.int .i64 k, .int .i64 q]) := R0.out.below hb9 R0.out.lt
  replace A1 : Hid (Box w7 w1.heap.size 33 #[.slice a1 n1 c1, .slice b1 m1 d1, .slice e1 k1 f1, .int .i64 q1] ∧ stN.lies 0 w7 [.slice a1 n1 c1, .slice b1 m1 d1, .slice e1 k1 f1, .int .i64 q1] s) := ⟨A1.out.1.below hb9 A1.out.1.lt, stN.below A1.out.2 hb9⟩
  replace V1 : Hid (Box w7 w2.heap.size 74 #[.int .i64 (vn : Int), .int .i64 vv]) := V1.out.below hb9 V1.out.lt
  replace V2 : Hid (Box w7 w3.heap.size 69 #[.int .i64 (vn : Int), .int .i64 vv]) := V2.out.below hb9 V2.out.lt
  replace A2 : Hid (Box w7 w4.heap.size 33 #[.slice a2 n2 c2, .slice b2 m2 d2, .slice e2 k2 f2, .int .i64 q2] ∧ stN.lies 0 w7 [.slice a2 n2 c2, .slice b2 m2 d2, .slice e2 k2 f2, .int .i64 q2] (clS s k q)) := ⟨A2.out.1.below hb9 A2.out.1.lt, stN.below A2.out.2 hb9⟩
  replace A3 : Hid (Box w7 w5.heap.size 26 #[.slice a3 n3 c3, .slice b3 m3 d3, .slice e3 k3 f3, .int .i64 q3] ∧ stR.lies 0 w7 [.slice a3 n3 c3, .slice b3 m3 d3, .slice e3 k3 f3, .int .i64 q3] (clS s k q)) := ⟨A3.out.1.below hb9 A3.out.1.lt, stR.below A3.out.2 hb9⟩
  replace HB : Hid (Below w.heap.size w w7) := below_any HB.out hb9
  clear HC hb9
  obtain ⟨V1t0, V1t1, -⟩ := V1.out.two
  obtain ⟨V2t0, V2t1, -⟩ := V2.out.two
  have HC := alikeL_same 0 0 [.slice a2 n2 c2, .slice b2 m2 d2, .slice e2 k2 f2, .int .i64 q2] [.slice a3 n3 c3, .slice b3 m3 d3, .slice e3 k3 f3, .int .i64 q3] (clS s k q) w7 A2.out.2 A3.out.2
  obtain ⟨A2c0, A2c1, A2c2, A2c3, -⟩ := A2.out.1.four
  obtain ⟨A3c0, A3c1, A3c2, A3c3, -⟩ := A3.out.1.four
  go_wp2_with (go_at_call 36; refine (num16_any _ _).mono ?_; rintro e9 wn ⟨rfl, rfl⟩)
  clear A2c0 A2c1 A2c2 A2c3 A3c0 A3c1 A3c2 A3c3
  refine HC.mono ?_
  rintro e9 w8 ⟨rfl, hb9⟩
  replace A0 : Hid (Box w8 w.heap.size 26 #[.slice a0 n0 c0, .slice b0 m0 d0, .slice e0 k0 f0, .int .i64 q0] ∧ stR.lies 0 w8 [.slice a0 n0 c0, .slice b0 m0 d0, .slice e0 k0 f0, .int .i64 q0] s) := ⟨A0.out.1.below hb9 A0.out.1.lt, stR.below A0.out.2 hb9⟩
  replace R0 : Hid (Box w8 (w.heap.size + 1) 69 #[.int .i64 k, .int .i64 q]) := R0.out.below hb9 R0.out.lt
  replace A1 : Hid (Box w8 w1.heap.size 33 #[.slice a1 n1 c1, .slice b1 m1 d1, .slice e1 k1 f1, .int .i64 q1] ∧ stN.lies 0 w8 [.slice a1 n1 c1, .slice b1 m1 d1, .slice e1 k1 f1, .int .i64 q1] s) := ⟨A1.out.1.below hb9 A1.out.1.lt, stN.below A1.out.2 hb9⟩
  replace V1 : Hid (Box w8 w2.heap.size 74 #[.int .i64 (vn : Int), .int .i64 vv]) := V1.out.below hb9 V1.out.lt
  replace V2 : Hid (Box w8 w3.heap.size 69 #[.int .i64 (vn : Int), .int .i64 vv]) := V2.out.below hb9 V2.out.lt
  replace A2 : Hid (Box w8 w4.heap.size 33 #[.slice a2 n2 c2, .slice b2 m2 d2, .slice e2 k2 f2, .int .i64 q2] ∧ stN.lies 0 w8 [.slice a2 n2 c2, .slice b2 m2 d2, .slice e2 k2 f2, .int .i64 q2] (clS s k q)) := ⟨A2.out.1.below hb9 A2.out.1.lt, stN.below A2.out.2 hb9⟩
  replace A3 : Hid (Box w8 w5.heap.size 26 #[.slice a3 n3 c3, .slice b3 m3 d3, .slice e3 k3 f3, .int .i64 q3] ∧ stR.lies 0 w8 [.slice a3 n3 c3, .slice b3 m3 d3, .slice e3 k3 f3, .int .i64 q3] (clS s k q)) := ⟨A3.out.1.below hb9 A3.out.1.lt, stR.below A3.out.2 hb9⟩
  replace HB : Hid (Below w.heap.size w w8) := below_any HB.out hb9
  clear HC hb9
  clear V1t0 V1t1 V2t0 V2t1
  have HC := alikeL_same 0 0 [.slice a1 n1 c1, .slice b1 m1 d1, .slice e1 k1 f1, .int .i64 q1] [.slice a0 n0 c0, .slice b0 m0 d0, .slice e0 k0 f0, .int .i64 q0] s w8 A1.out.2 A0.out.2
  obtain ⟨A0c0, A0c1, A0c2, A0c3, -⟩ := A0.out.1.four
  obtain ⟨A1c0, A1c1, A1c2, A1c3, -⟩ := A1.out.1.four
  go_wp2_with (go_at_call 36; refine (num16_any _ _).mono ?_; rintro e9 wn ⟨rfl, rfl⟩)
  clear A1c0 A1c1 A1c2 A1c3 A0c0 A0c1 A0c2 A0c3
  refine HC.mono ?_
  rintro e9 w9 ⟨rfl, hb9⟩
  replace A0 : Hid (Box w9 w.heap.size 26 #[.slice a0 n0 c0, .slice b0 m0 d0, .slice e0 k0 f0, .int .i64 q0] ∧ stR.lies 0 w9 [.slice a0 n0 c0, .slice b0 m0 d0, .slice e0 k0 f0, .int .i64 q0] s) := ⟨A0.out.1.below hb9 A0.out.1.lt, stR.below A0.out.2 hb9⟩
  replace R0 : Hid (Box w9 (w.heap.size + 1) 69 #[.int .i64 k, .int .i64 q]) := R0.out.below hb9 R0.out.lt
  replace A1 : Hid (Box w9 w1.heap.size 33 #[.slice a1 n1 c1, .slice b1 m1 d1, .slice e1 k1 f1, .int .i64 q1] ∧ stN.lies 0 w9 [.slice a1 n1 c1, .slice b1 m1 d1, .slice e1 k1 f1, .int .i64 q1] s) := ⟨A1.out.1.below hb9 A1.out.1.lt, stN.below A1.out.2 hb9⟩
  replace V1 : Hid (Box w9 w2.heap.size 74 #[.int .i64 (vn : Int), .int .i64 vv]) := V1.out.below hb9 V1.out.lt
  replace V2 : Hid (Box w9 w3.heap.size 69 #[.int .i64 (vn : Int), .int .i64 vv]) := V2.out.below hb9 V2.out.lt
  replace A2 : Hid (Box w9 w4.heap.size 33 #[.slice a2 n2 c2, .slice b2 m2 d2, .slice e2 k2 f2, .int .i64 q2] ∧ stN.lies 0 w9 [.slice a2 n2 c2, .slice b2 m2 d2, .slice e2 k2 f2, .int .i64 q2] (clS s k q)) := ⟨A2.out.1.below hb9 A2.out.1.lt, stN.below A2.out.2 hb9⟩
  replace A3 : Hid (Box w9 w5.heap.size 26 #[.slice a3 n3 c3, .slice b3 m3 d3, .slice e3 k3 f3, .int .i64 q3] ∧ stR.lies 0 w9 [.slice a3 n3 c3, .slice b3 m3 d3, .slice e3 k3 f3, .int .i64 q3] (clS s k q)) := ⟨A3.out.1.below hb9 A3.out.1.lt, stR.below A3.out.2 hb9⟩
  replace HB : Hid (Below w.heap.size w w9) := below_any HB.out hb9
  clear HC hb9
  have HC := alive16_any w9
  go_wp2_with fail
  refine HC.mono ?_
  rintro e9 w9 ⟨rfl, rfl⟩
  clear HC
  have HQ : Hid (post (.returned (.bool true)) w9) := HPo.out _ HB.out
  go_wp2
  exact HQ.out

set_option maxRecDepth 100000 in
theorem lifted (os : Os) (started : os.Started) (H : Type) (enc : TypeId × Value → H) :
    ReturnsInHanded {} Try.checked os 7 .any (Rows.cleanTellsSpec.pre6 enc Try.prog Try.f7 Rows.cleanTellsRow.domain false) (Rows.cleanTellsSpec.post enc Try.prog Try.f7 false true false false) := by
  refine returnsInHanded_of_change_sized (C := Try.checked) own started (by kernel_rfl) Try.func7
    (ChangeSpec.witness6 (enc := enc) (C := Try.checked) false ⟨#[], #[.agg #[.slice none 0 0, .slice none 0 0, .slice none 0 0, .int .i64 0], .agg #[.int .i64 0, .int .i64 0], .int .i64 0, .int .i64 0, .int .i64 0], []⟩ 8 (by kernel_rfl) (by kernel_rfl) (by kernel_rfl) (by kernel_rfl)) ?_
  intro W base args ds gs before hval0 hW hcnd hsz0 _
  have hval : ∀ (j : Nat) t v, Try.f7.params[j]? = some t → args[j]? = some v → Value.okWide Try.prog W .any base t v := hval0
  have hW' := hW
  obtain ⟨p, q, hA0, hV, rfl, hfz, hnd⟩ := hW
  have hA : DataW.TrodAll enc Try.prog W 0 (fun _ => true) true Try.f7.params.toList args.toList ds p := hA0
  have hsz : (DataW.weightsEach Try.prog (Try.f7.params.toList ++ Rows.cleanTellsSpec.plain.varTypes Try.prog) (ds ++ gs)).all (· ≤ reachBytes) = true := hsz0
  clear hsz0
  rw [Try.params7] at hA hval hsz
  obtain ⟨v0, vs0, d0, ds0, p0, q0, hargs, rfl, rfl, h0, r0⟩ := trodAll_cons hA
  obtain ⟨v1, vs1, d1, ds1, p1, q1, rfl, rfl, rfl, h1, r1⟩ := trodAll_cons r0
  obtain ⟨v2, vs2, d2, ds2, p2, q2, rfl, rfl, rfl, h2, r2⟩ := trodAll_cons r1
  obtain ⟨v3, vs3, d3, ds3, p3, q3, rfl, rfl, rfl, h3, r3⟩ := trodAll_cons r2
  obtain ⟨v4, vs4, d4, ds4, p4, q4, rfl, rfl, rfl, h4, r4⟩ := trodAll_cons r3
  obtain ⟨rfl, rfl, rfl⟩ := trodAll_nil r4
  obtain rfl : args = #[v0, v1, v2, v3, v4] := by cases args; simp_all
  obtain ⟨rfl, rfl⟩ := trodVars_none hV
  obtain ⟨cs0, rfl, hc0⟩ := okWide_struct Try.underlying26 (hval 0 26 v0 rfl rfl)
  obtain ⟨us0, rfl⟩ := as_list cs0
  have k0 := h0
  have lt0 : ∀ x ∈ p0, x.block < W.heap.size := by obtain ⟨m, hm⟩ := k0; exact DataW.trod_lt m _ _ _ hm
  obtain ⟨m0, hm0⟩ := h0
  obtain ⟨s0, A0, F0'⟩ := stR.reads hm0
  have F0 := F0' fun n hn => by have := List.all_eq_true.1 hsz _ (DataW.weights_mem_each (j := 0) rfl rfl n hn); simpa using this
  obtain ⟨cs1, rfl, hc1⟩ := okWide_struct Try.underlying69 (hval 1 69 v1 rfl rfl)
  obtain ⟨us1, rfl⟩ := as_list cs1
  have k1 := h1
  have lt1 : ∀ x ∈ p1, x.block < W.heap.size := by obtain ⟨m, hm⟩ := k1; exact DataW.trod_lt m _ _ _ hm
  obtain ⟨m1, hm1⟩ := h1
  obtain ⟨s1, A1, F1'⟩ := recR.reads hm1
  have F1 := F1' fun n hn => by have := List.all_eq_true.1 hsz _ (DataW.weights_mem_each (j := 1) rfl rfl n hn); simpa using this
  obtain ⟨a2, rfl, rfl, rfl, w2⟩ := open_int Try.underlying3 (hval 2 3 v2 rfl rfl) h2
  have b2 := bounds_i64 w2
  obtain ⟨a3, rfl, rfl, rfl, w3⟩ := open_int Try.underlying3 (hval 3 3 v3 rfl rfl) h3
  have b3 := bounds_i64 w3
  obtain ⟨a4, rfl, rfl, rfl, w4⟩ := open_int Try.underlying3 (hval 4 3 v4 rfl rfl) h4
  have b4 := bounds_i64 w4
  clear hA0 hval0
  refine (walk 0 0 us0 us1 s0 s1 a2 a3 a4 W A0 (fits_st F0) A1 b2 b3 b4).mono fun e W' ⟨he, bel⟩ => ?_
  subst he
  exact ⟨_, rfl, _, _, _, [], _, [], hW', trodAll_mk1 (shut_bool Try.underlying4 _), (trodAll_cons_mk (Below.trod laidOut (by kernel_rfl) (of_decide_eq_true (by kernel_rfl)) k0 bel lt0) (trodAll_cons_mk (Below.trod laidOut (by kernel_rfl) (of_decide_eq_true (by kernel_rfl)) k1 bel lt1) (trodAll_cons_mk (shut_int Try.underlying3 w2) (trodAll_cons_mk (shut_int Try.underlying3 w3) (trodAll_cons_mk (shut_int Try.underlying3 w4) trodAll_mk0))))), rfl, bel.frame _, fun h => by cases h⟩

theorem over : Rows.cleanTellsRow.holds Try.pinned (OpenSpec.ofChange Rows.cleanTellsSpec) :=
  OpenClaim.holds_of_wide 7 Try.f7 rfl rfl rfl rfl rfl rfl rfl ⟨rfl, rfl, rfl, rfl, rfl⟩ rfl rfl rfl rfl rfl (by kernel_rfl) Try.func7 (by kernel_rfl)
    (of_decide_eq_true (by kernel_rfl)) (by unfold Func.isWrapper; first | (rw [if_pos (by decide +kernel)]; kernel_rfl) | (rw [if_neg (by decide +kernel)]; exact ⟨rfl, rfl⟩))
    (fun os started H enc _ => lifted os started H enc)

end Go.Proofs.Ytkpckadicjdieaa.cleanTells

namespace Go.Proofs.Ytkpckadicjdieaa
theorem cleanTells_holds : Rows.CleanTellsSaid := cleanTells.over
#print axioms cleanTells_holds
end Go.Proofs.Ytkpckadicjdieaa
