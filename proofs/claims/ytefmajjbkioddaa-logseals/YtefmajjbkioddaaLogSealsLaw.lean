/-
  LogSeals, proved: for every store and every number (as great as the form reads them): the call returns true, and changes nothing that was in memory. No condition of its own.
-/
import Derived.Test.YtefmajjbkioddaaRFree
import Derived.Test.YtefmajjbkioddaaLAlive
import Derived.Test.YtefmajjbkioddaaLOf
import Derived.Test.YtefmajjbkioddaaLAlike
import Derived.Test.YtefmajjbkioddaaFlat
namespace Go.Proofs.Ytefmajjbkioddaa.logSeals
open Go.ChangeShapes Go.WideShapes Go.ChangeAt Go.RowKit
set_option linter.unusedVariables false

set_option maxRecDepth 100000 in
set_option maxHeartbeats 16000000 in
theorem walk (n0 : Nat) (us : List Value) (s : St) (k : Int) (w : World) (h : stR.lies n0 w us s) (hf : FitsL s) :
    Calls Try.prog 4 #[.agg us.toArray, .int .i64 k] w fun e w' => e = .returned (.bool true) ∧ Below w.heap.size w w' := by
  obtain ⟨post, hpost⟩ : ∃ post : Ending → World → Prop, post = fun e w' => e = .returned (.bool true) ∧ Below w.heap.size w w' := ⟨_, rfl⟩
  have HPo : Hid (∀ w', Below w.heap.size w w' → post (.returned (.bool true)) w') := fun w' h => by rw [hpost]; exact ⟨rfl, h⟩
  rw [← hpost]
  clear hpost
  obtain ⟨a0, n0, c0, b0, m0, d0, e0, k0, f0, q0, rfl⟩ := st_flatL h
  have HF : Hid (FitsL s) := hf
  obtain ⟨W, hW⟩ : ∃ W, W = w.alloc (.cells #[.slice a0 n0 c0, .slice b0 m0 d0, .slice e0 k0 f0, .int .i64 q0] 26) := ⟨_, rfl⟩
  have HB : Hid (Below w.heap.size w W) := by rw [hW]; exact (Below.refl _ _).alloc (Nat.le_refl _) _
  have A0 : Hid (Box W w.heap.size 26 #[.slice a0 n0 c0, .slice b0 m0 d0, .slice e0 k0 f0, .int .i64 q0] ∧ stR.lies 0 W [.slice a0 n0 c0, .slice b0 m0 d0, .slice e0 k0 f0, .int .i64 q0] s) := ⟨by rw [hW]; exact Box.new _ _ _, stR.below (stR.weaken h (Nat.zero_le _)) HB.out⟩
  obtain ⟨se, hse⟩ : ∃ z, z = sE s := ⟨_, rfl⟩
  obtain ⟨sp, hsp⟩ : ∃ z, z = sP s := ⟨_, rfl⟩
  obtain ⟨ue, hue⟩ : ∃ z, z = uE s k := ⟨_, rfl⟩
  obtain ⟨fe, hfe⟩ : ∃ z, z = fE s k := ⟨_, rfl⟩
  have HE : Hid (se = sE s ∧ sp = sP s ∧ ue = uE s k ∧ fe = fE s k) := ⟨hse, hsp, hue, hfe⟩
  clear hse hsp hue hfe
  clear h hf
  go_enter Try.func4, Try.ntmps4
  go_upto_region 1 with fail
  rw [← hW]
  clear hW
  have HC := ofL_any 0 [.slice a0 n0 c0, .slice b0 m0 d0, .slice e0 k0 f0, .int .i64 q0] s W A0.out.2 HF.out
  obtain ⟨A0c0, A0c1, A0c2, A0c3, -⟩ := A0.out.1.four
  go_wp2_with fail
  clear A0c0 A0c1 A0c2 A0c3
  refine HC.mono ?_
  rintro e9 w1 ⟨⟨us9, rfl, ho9⟩, hb9⟩
  obtain ⟨a1, n1, c1, b1, m1, d1, e1, k1, f1, q1, rfl⟩ := st_flat ho9
  replace A0 : Hid (Box w1 w.heap.size 26 #[.slice a0 n0 c0, .slice b0 m0 d0, .slice e0 k0 f0, .int .i64 q0] ∧ stR.lies 0 w1 [.slice a0 n0 c0, .slice b0 m0 d0, .slice e0 k0 f0, .int .i64 q0] s) := ⟨A0.out.1.below hb9 A0.out.1.lt, stR.below A0.out.2 hb9⟩
  replace HB : Hid (Below w.heap.size w w1) := below_any HB.out hb9
  obtain ⟨X1, hX1⟩ : ∃ X, X = w1.alloc (.cells #[.slice a1 n1 c1, .slice b1 m1 d1, .slice e1 k1 f1, .int .i64 q1] 33) := ⟨_, rfl⟩
  have hbX : Below w1.heap.size w1 X1 := by rw [hX1]; exact (Below.refl _ _).alloc (Nat.le_refl _) _
  have A1 : Hid (Box X1 w1.heap.size 33 #[.slice a1 n1 c1, .slice b1 m1 d1, .slice e1 k1 f1, .int .i64 q1] ∧ stN.lies 0 X1 [.slice a1 n1 c1, .slice b1 m1 d1, .slice e1 k1 f1, .int .i64 q1] s) := ⟨by rw [hX1]; exact Box.new _ _ _, stN.below (stN.weaken (stN.olies ho9) (Nat.zero_le _)) hbX⟩
  replace A0 : Hid (Box X1 w.heap.size 26 #[.slice a0 n0 c0, .slice b0 m0 d0, .slice e0 k0 f0, .int .i64 q0] ∧ stR.lies 0 X1 [.slice a0 n0 c0, .slice b0 m0 d0, .slice e0 k0 f0, .int .i64 q0] s) := ⟨A0.out.1.below hbX A0.out.1.lt, stR.below A0.out.2 hbX⟩
  replace HB : Hid (Below w.heap.size w X1) := below_any HB.out hbX
  clear HC ho9 hb9 hbX
  go_upto_region 2 with fail
  rw [← hX1]
  clear hX1
  have HC := seal_any 0 [.slice a1 n1 c1, .slice b1 m1 d1, .slice e1 k1 f1, .int .i64 q1] s X1 A1.out.2
  rw [← HE.out.1] at HC
  rw [← HE.out.2.1] at HC
  obtain ⟨A1c0, A1c1, A1c2, A1c3, -⟩ := A1.out.1.four
  go_wp2_with fail
  clear A1c0 A1c1 A1c2 A1c3
  refine HC.mono ?_
  rintro e9 w2 ⟨⟨us9, rfl, ho9⟩, hb9⟩
  obtain ⟨a2, n2, c2, b2, m2, d2, e2, k2, f2, q2, rfl⟩ := st_flat ho9
  replace A0 : Hid (Box w2 w.heap.size 26 #[.slice a0 n0 c0, .slice b0 m0 d0, .slice e0 k0 f0, .int .i64 q0] ∧ stR.lies 0 w2 [.slice a0 n0 c0, .slice b0 m0 d0, .slice e0 k0 f0, .int .i64 q0] s) := ⟨A0.out.1.below hb9 A0.out.1.lt, stR.below A0.out.2 hb9⟩
  replace A1 : Hid (Box w2 w1.heap.size 33 #[.slice a1 n1 c1, .slice b1 m1 d1, .slice e1 k1 f1, .int .i64 q1] ∧ stN.lies 0 w2 [.slice a1 n1 c1, .slice b1 m1 d1, .slice e1 k1 f1, .int .i64 q1] s) := ⟨A1.out.1.below hb9 A1.out.1.lt, stN.below A1.out.2 hb9⟩
  replace HB : Hid (Below w.heap.size w w2) := below_any HB.out hb9
  obtain ⟨X2, hX2⟩ : ∃ X, X = w2.alloc (.cells #[.slice a2 n2 c2, .slice b2 m2 d2, .slice e2 k2 f2, .int .i64 q2] 33) := ⟨_, rfl⟩
  have hbX : Below w2.heap.size w2 X2 := by rw [hX2]; exact (Below.refl _ _).alloc (Nat.le_refl _) _
  have A2 : Hid (Box X2 w2.heap.size 33 #[.slice a2 n2 c2, .slice b2 m2 d2, .slice e2 k2 f2, .int .i64 q2] ∧ stN.lies 0 X2 [.slice a2 n2 c2, .slice b2 m2 d2, .slice e2 k2 f2, .int .i64 q2] (sS s)) := ⟨by rw [hX2]; exact Box.new _ _ _, stN.below (stN.weaken (stN.olies ho9) (Nat.zero_le _)) hbX⟩
  replace A0 : Hid (Box X2 w.heap.size 26 #[.slice a0 n0 c0, .slice b0 m0 d0, .slice e0 k0 f0, .int .i64 q0] ∧ stR.lies 0 X2 [.slice a0 n0 c0, .slice b0 m0 d0, .slice e0 k0 f0, .int .i64 q0] s) := ⟨A0.out.1.below hbX A0.out.1.lt, stR.below A0.out.2 hbX⟩
  replace A1 : Hid (Box X2 w1.heap.size 33 #[.slice a1 n1 c1, .slice b1 m1 d1, .slice e1 k1 f1, .int .i64 q1] ∧ stN.lies 0 X2 [.slice a1 n1 c1, .slice b1 m1 d1, .slice e1 k1 f1, .int .i64 q1] s) := ⟨A1.out.1.below hbX A1.out.1.lt, stN.below A1.out.2 hbX⟩
  replace HB : Hid (Below w.heap.size w X2) := below_any HB.out hbX
  clear HC ho9 hb9 hbX
  go_upto_region 3 with fail
  rw [← hX2]
  clear hX2
  have HC := rseal_any 0 [.slice a0 n0 c0, .slice b0 m0 d0, .slice e0 k0 f0, .int .i64 q0] s X2 A0.out.2
  rw [← HE.out.1] at HC
  rw [← HE.out.2.1] at HC
  obtain ⟨A0c0, A0c1, A0c2, A0c3, -⟩ := A0.out.1.four
  go_wp2_with fail
  clear A0c0 A0c1 A0c2 A0c3
  refine HC.mono ?_
  rintro e9 w3 ⟨⟨us9, rfl, ho9⟩, hb9⟩
  obtain ⟨a3, n3, c3, b3, m3, d3, e3, k3, f3, q3, rfl⟩ := st_flatR ho9
  replace A0 : Hid (Box w3 w.heap.size 26 #[.slice a0 n0 c0, .slice b0 m0 d0, .slice e0 k0 f0, .int .i64 q0] ∧ stR.lies 0 w3 [.slice a0 n0 c0, .slice b0 m0 d0, .slice e0 k0 f0, .int .i64 q0] s) := ⟨A0.out.1.below hb9 A0.out.1.lt, stR.below A0.out.2 hb9⟩
  replace A1 : Hid (Box w3 w1.heap.size 33 #[.slice a1 n1 c1, .slice b1 m1 d1, .slice e1 k1 f1, .int .i64 q1] ∧ stN.lies 0 w3 [.slice a1 n1 c1, .slice b1 m1 d1, .slice e1 k1 f1, .int .i64 q1] s) := ⟨A1.out.1.below hb9 A1.out.1.lt, stN.below A1.out.2 hb9⟩
  replace A2 : Hid (Box w3 w2.heap.size 33 #[.slice a2 n2 c2, .slice b2 m2 d2, .slice e2 k2 f2, .int .i64 q2] ∧ stN.lies 0 w3 [.slice a2 n2 c2, .slice b2 m2 d2, .slice e2 k2 f2, .int .i64 q2] (sS s)) := ⟨A2.out.1.below hb9 A2.out.1.lt, stN.below A2.out.2 hb9⟩
  replace HB : Hid (Below w.heap.size w w3) := below_any HB.out hb9
  obtain ⟨X3, hX3⟩ : ∃ X, X = w3.alloc (.cells #[.slice a3 n3 c3, .slice b3 m3 d3, .slice e3 k3 f3, .int .i64 q3] 26) := ⟨_, rfl⟩
  have hbX : Below w3.heap.size w3 X3 := by rw [hX3]; exact (Below.refl _ _).alloc (Nat.le_refl _) _
  have A3 : Hid (Box X3 w3.heap.size 26 #[.slice a3 n3 c3, .slice b3 m3 d3, .slice e3 k3 f3, .int .i64 q3] ∧ stR.lies 0 X3 [.slice a3 n3 c3, .slice b3 m3 d3, .slice e3 k3 f3, .int .i64 q3] (sS s)) := ⟨by rw [hX3]; exact Box.new _ _ _, stR.below (stR.weaken (stR.olies ho9) (Nat.zero_le _)) hbX⟩
  replace A0 : Hid (Box X3 w.heap.size 26 #[.slice a0 n0 c0, .slice b0 m0 d0, .slice e0 k0 f0, .int .i64 q0] ∧ stR.lies 0 X3 [.slice a0 n0 c0, .slice b0 m0 d0, .slice e0 k0 f0, .int .i64 q0] s) := ⟨A0.out.1.below hbX A0.out.1.lt, stR.below A0.out.2 hbX⟩
  replace A1 : Hid (Box X3 w1.heap.size 33 #[.slice a1 n1 c1, .slice b1 m1 d1, .slice e1 k1 f1, .int .i64 q1] ∧ stN.lies 0 X3 [.slice a1 n1 c1, .slice b1 m1 d1, .slice e1 k1 f1, .int .i64 q1] s) := ⟨A1.out.1.below hbX A1.out.1.lt, stN.below A1.out.2 hbX⟩
  replace A2 : Hid (Box X3 w2.heap.size 33 #[.slice a2 n2 c2, .slice b2 m2 d2, .slice e2 k2 f2, .int .i64 q2] ∧ stN.lies 0 X3 [.slice a2 n2 c2, .slice b2 m2 d2, .slice e2 k2 f2, .int .i64 q2] (sS s)) := ⟨A2.out.1.below hbX A2.out.1.lt, stN.below A2.out.2 hbX⟩
  replace HB : Hid (Below w.heap.size w X3) := below_any HB.out hbX
  clear HC ho9 hb9 hbX
  go_upto_region 4 with fail
  rw [← hX3]
  clear hX3
  have HC := liveL_any 0 [.slice a1 n1 c1, .slice b1 m1 d1, .slice e1 k1 f1, .int .i64 q1] s k X3 A1.out.2
  rw [← HE.out.2.2.1] at HC
  obtain ⟨A1c0, A1c1, A1c2, A1c3, -⟩ := A1.out.1.four
  go_wp2_with fail
  clear A1c0 A1c1 A1c2 A1c3
  refine HC.mono ?_
  rintro e9 w4 ⟨⟨v9, rfl, ho9⟩, hb9⟩
  obtain ⟨aA4, cA4, _, hv9, -⟩ := Shape.list_own (S := bkN) (ht := Try.underlying31) (hc := cells31) ho9
  obtain rfl : v9 = _ := (List.cons.inj hv9).1
  obtain ⟨zA4, hz9⟩ : ∃ z, z = ((lL s k)).length := ⟨_, rfl⟩
  rw [← hz9] at ho9 ⊢
  have A4 : Hid (bksN.lies 0 w4 [.slice aA4 zA4 cA4] (lL s k)) := bksN.weaken (bksN.olies ho9) (Nat.zero_le _)
  replace A0 : Hid (Box w4 w.heap.size 26 #[.slice a0 n0 c0, .slice b0 m0 d0, .slice e0 k0 f0, .int .i64 q0] ∧ stR.lies 0 w4 [.slice a0 n0 c0, .slice b0 m0 d0, .slice e0 k0 f0, .int .i64 q0] s) := ⟨A0.out.1.below hb9 A0.out.1.lt, stR.below A0.out.2 hb9⟩
  replace A1 : Hid (Box w4 w1.heap.size 33 #[.slice a1 n1 c1, .slice b1 m1 d1, .slice e1 k1 f1, .int .i64 q1] ∧ stN.lies 0 w4 [.slice a1 n1 c1, .slice b1 m1 d1, .slice e1 k1 f1, .int .i64 q1] s) := ⟨A1.out.1.below hb9 A1.out.1.lt, stN.below A1.out.2 hb9⟩
  replace A2 : Hid (Box w4 w2.heap.size 33 #[.slice a2 n2 c2, .slice b2 m2 d2, .slice e2 k2 f2, .int .i64 q2] ∧ stN.lies 0 w4 [.slice a2 n2 c2, .slice b2 m2 d2, .slice e2 k2 f2, .int .i64 q2] (sS s)) := ⟨A2.out.1.below hb9 A2.out.1.lt, stN.below A2.out.2 hb9⟩
  replace A3 : Hid (Box w4 w3.heap.size 26 #[.slice a3 n3 c3, .slice b3 m3 d3, .slice e3 k3 f3, .int .i64 q3] ∧ stR.lies 0 w4 [.slice a3 n3 c3, .slice b3 m3 d3, .slice e3 k3 f3, .int .i64 q3] (sS s)) := ⟨A3.out.1.below hb9 A3.out.1.lt, stR.below A3.out.2 hb9⟩
  replace HB : Hid (Below w.heap.size w w4) := below_any HB.out hb9
  clear HC ho9 hb9 hv9 hz9
  have HC := rliveL_any 0 [.slice a0 n0 c0, .slice b0 m0 d0, .slice e0 k0 f0, .int .i64 q0] s k w4 A0.out.2
  rw [← HE.out.2.2.1] at HC
  obtain ⟨A0c0, A0c1, A0c2, A0c3, -⟩ := A0.out.1.four
  go_wp2_with fail
  clear A0c0 A0c1 A0c2 A0c3
  refine HC.mono ?_
  rintro e9 w5 ⟨⟨v9, rfl, ho9⟩, hb9⟩
  obtain ⟨aA5, cA5, _, hv9, -⟩ := Shape.list_own (S := bkR) (ht := Try.underlying24) (hc := cells24) ho9
  obtain rfl : v9 = _ := (List.cons.inj hv9).1
  obtain ⟨zA5, hz9⟩ : ∃ z, z = ((lL s k)).length := ⟨_, rfl⟩
  rw [← hz9] at ho9 ⊢
  have A5 : Hid (bksR.lies 0 w5 [.slice aA5 zA5 cA5] (lL s k)) := bksR.weaken (bksR.olies ho9) (Nat.zero_le _)
  replace A0 : Hid (Box w5 w.heap.size 26 #[.slice a0 n0 c0, .slice b0 m0 d0, .slice e0 k0 f0, .int .i64 q0] ∧ stR.lies 0 w5 [.slice a0 n0 c0, .slice b0 m0 d0, .slice e0 k0 f0, .int .i64 q0] s) := ⟨A0.out.1.below hb9 A0.out.1.lt, stR.below A0.out.2 hb9⟩
  replace A1 : Hid (Box w5 w1.heap.size 33 #[.slice a1 n1 c1, .slice b1 m1 d1, .slice e1 k1 f1, .int .i64 q1] ∧ stN.lies 0 w5 [.slice a1 n1 c1, .slice b1 m1 d1, .slice e1 k1 f1, .int .i64 q1] s) := ⟨A1.out.1.below hb9 A1.out.1.lt, stN.below A1.out.2 hb9⟩
  replace A2 : Hid (Box w5 w2.heap.size 33 #[.slice a2 n2 c2, .slice b2 m2 d2, .slice e2 k2 f2, .int .i64 q2] ∧ stN.lies 0 w5 [.slice a2 n2 c2, .slice b2 m2 d2, .slice e2 k2 f2, .int .i64 q2] (sS s)) := ⟨A2.out.1.below hb9 A2.out.1.lt, stN.below A2.out.2 hb9⟩
  replace A3 : Hid (Box w5 w3.heap.size 26 #[.slice a3 n3 c3, .slice b3 m3 d3, .slice e3 k3 f3, .int .i64 q3] ∧ stR.lies 0 w5 [.slice a3 n3 c3, .slice b3 m3 d3, .slice e3 k3 f3, .int .i64 q3] (sS s)) := ⟨A3.out.1.below hb9 A3.out.1.lt, stR.below A3.out.2 hb9⟩
  replace A4 : Hid (bksN.lies 0 w5 [(.slice aA4 zA4 cA4)] (lL s k)) := bksN.below A4.out hb9
  replace HB : Hid (Below w.heap.size w w5) := below_any HB.out hb9
  clear HC ho9 hb9 hv9 hz9
  have HC := free_any 0 [.slice a1 n1 c1, .slice b1 m1 d1, .slice e1 k1 f1, .int .i64 q1] s k w5 A1.out.2
  rw [← HE.out.2.2.2] at HC
  obtain ⟨A1c0, A1c1, A1c2, A1c3, -⟩ := A1.out.1.four
  go_wp2_with fail
  clear A1c0 A1c1 A1c2 A1c3
  refine HC.mono ?_
  rintro e9 w6 ⟨⟨us9, rfl, ho9⟩, hb9⟩
  obtain ⟨a6, n6, c6, b6, m6, d6, e6, k6, f6, q6, rfl⟩ := st_flat ho9
  replace A0 : Hid (Box w6 w.heap.size 26 #[.slice a0 n0 c0, .slice b0 m0 d0, .slice e0 k0 f0, .int .i64 q0] ∧ stR.lies 0 w6 [.slice a0 n0 c0, .slice b0 m0 d0, .slice e0 k0 f0, .int .i64 q0] s) := ⟨A0.out.1.below hb9 A0.out.1.lt, stR.below A0.out.2 hb9⟩
  replace A1 : Hid (Box w6 w1.heap.size 33 #[.slice a1 n1 c1, .slice b1 m1 d1, .slice e1 k1 f1, .int .i64 q1] ∧ stN.lies 0 w6 [.slice a1 n1 c1, .slice b1 m1 d1, .slice e1 k1 f1, .int .i64 q1] s) := ⟨A1.out.1.below hb9 A1.out.1.lt, stN.below A1.out.2 hb9⟩
  replace A2 : Hid (Box w6 w2.heap.size 33 #[.slice a2 n2 c2, .slice b2 m2 d2, .slice e2 k2 f2, .int .i64 q2] ∧ stN.lies 0 w6 [.slice a2 n2 c2, .slice b2 m2 d2, .slice e2 k2 f2, .int .i64 q2] (sS s)) := ⟨A2.out.1.below hb9 A2.out.1.lt, stN.below A2.out.2 hb9⟩
  replace A3 : Hid (Box w6 w3.heap.size 26 #[.slice a3 n3 c3, .slice b3 m3 d3, .slice e3 k3 f3, .int .i64 q3] ∧ stR.lies 0 w6 [.slice a3 n3 c3, .slice b3 m3 d3, .slice e3 k3 f3, .int .i64 q3] (sS s)) := ⟨A3.out.1.below hb9 A3.out.1.lt, stR.below A3.out.2 hb9⟩
  replace A4 : Hid (bksN.lies 0 w6 [(.slice aA4 zA4 cA4)] (lL s k)) := bksN.below A4.out hb9
  replace A5 : Hid (bksR.lies 0 w6 [(.slice aA5 zA5 cA5)] (lL s k)) := bksR.below A5.out hb9
  replace HB : Hid (Below w.heap.size w w6) := below_any HB.out hb9
  obtain ⟨X6, hX6⟩ : ∃ X, X = w6.alloc (.cells #[.slice a6 n6 c6, .slice b6 m6 d6, .slice e6 k6 f6, .int .i64 q6] 33) := ⟨_, rfl⟩
  have hbX : Below w6.heap.size w6 X6 := by rw [hX6]; exact (Below.refl _ _).alloc (Nat.le_refl _) _
  have A6 : Hid (Box X6 w6.heap.size 33 #[.slice a6 n6 c6, .slice b6 m6 d6, .slice e6 k6 f6, .int .i64 q6] ∧ stN.lies 0 X6 [.slice a6 n6 c6, .slice b6 m6 d6, .slice e6 k6 f6, .int .i64 q6] (fS s k)) := ⟨by rw [hX6]; exact Box.new _ _ _, stN.below (stN.weaken (stN.olies ho9) (Nat.zero_le _)) hbX⟩
  replace A0 : Hid (Box X6 w.heap.size 26 #[.slice a0 n0 c0, .slice b0 m0 d0, .slice e0 k0 f0, .int .i64 q0] ∧ stR.lies 0 X6 [.slice a0 n0 c0, .slice b0 m0 d0, .slice e0 k0 f0, .int .i64 q0] s) := ⟨A0.out.1.below hbX A0.out.1.lt, stR.below A0.out.2 hbX⟩
  replace A1 : Hid (Box X6 w1.heap.size 33 #[.slice a1 n1 c1, .slice b1 m1 d1, .slice e1 k1 f1, .int .i64 q1] ∧ stN.lies 0 X6 [.slice a1 n1 c1, .slice b1 m1 d1, .slice e1 k1 f1, .int .i64 q1] s) := ⟨A1.out.1.below hbX A1.out.1.lt, stN.below A1.out.2 hbX⟩
  replace A2 : Hid (Box X6 w2.heap.size 33 #[.slice a2 n2 c2, .slice b2 m2 d2, .slice e2 k2 f2, .int .i64 q2] ∧ stN.lies 0 X6 [.slice a2 n2 c2, .slice b2 m2 d2, .slice e2 k2 f2, .int .i64 q2] (sS s)) := ⟨A2.out.1.below hbX A2.out.1.lt, stN.below A2.out.2 hbX⟩
  replace A3 : Hid (Box X6 w3.heap.size 26 #[.slice a3 n3 c3, .slice b3 m3 d3, .slice e3 k3 f3, .int .i64 q3] ∧ stR.lies 0 X6 [.slice a3 n3 c3, .slice b3 m3 d3, .slice e3 k3 f3, .int .i64 q3] (sS s)) := ⟨A3.out.1.below hbX A3.out.1.lt, stR.below A3.out.2 hbX⟩
  replace A4 : Hid (bksN.lies 0 X6 [(.slice aA4 zA4 cA4)] (lL s k)) := bksN.below A4.out hbX
  replace A5 : Hid (bksR.lies 0 X6 [(.slice aA5 zA5 cA5)] (lL s k)) := bksR.below A5.out hbX
  replace HB : Hid (Below w.heap.size w X6) := below_any HB.out hbX
  clear HC ho9 hb9 hbX
  go_upto_region 7 with fail
  rw [← hX6]
  clear hX6
  have HC := rfreeL_any 0 [.slice a0 n0 c0, .slice b0 m0 d0, .slice e0 k0 f0, .int .i64 q0] s k X6 A0.out.2
  rw [← HE.out.2.2.2] at HC
  obtain ⟨A0c0, A0c1, A0c2, A0c3, -⟩ := A0.out.1.four
  go_wp2_with fail
  clear A0c0 A0c1 A0c2 A0c3
  refine HC.mono ?_
  rintro e9 w7 ⟨⟨us9, rfl, ho9⟩, hb9⟩
  obtain ⟨a7, n7, c7, b7, m7, d7, e7, k7, f7, q7, rfl⟩ := st_flatR ho9
  replace A0 : Hid (Box w7 w.heap.size 26 #[.slice a0 n0 c0, .slice b0 m0 d0, .slice e0 k0 f0, .int .i64 q0] ∧ stR.lies 0 w7 [.slice a0 n0 c0, .slice b0 m0 d0, .slice e0 k0 f0, .int .i64 q0] s) := ⟨A0.out.1.below hb9 A0.out.1.lt, stR.below A0.out.2 hb9⟩
  replace A1 : Hid (Box w7 w1.heap.size 33 #[.slice a1 n1 c1, .slice b1 m1 d1, .slice e1 k1 f1, .int .i64 q1] ∧ stN.lies 0 w7 [.slice a1 n1 c1, .slice b1 m1 d1, .slice e1 k1 f1, .int .i64 q1] s) := ⟨A1.out.1.below hb9 A1.out.1.lt, stN.below A1.out.2 hb9⟩
  replace A2 : Hid (Box w7 w2.heap.size 33 #[.slice a2 n2 c2, .slice b2 m2 d2, .slice e2 k2 f2, .int .i64 q2] ∧ stN.lies 0 w7 [.slice a2 n2 c2, .slice b2 m2 d2, .slice e2 k2 f2, .int .i64 q2] (sS s)) := ⟨A2.out.1.below hb9 A2.out.1.lt, stN.below A2.out.2 hb9⟩
  replace A3 : Hid (Box w7 w3.heap.size 26 #[.slice a3 n3 c3, .slice b3 m3 d3, .slice e3 k3 f3, .int .i64 q3] ∧ stR.lies 0 w7 [.slice a3 n3 c3, .slice b3 m3 d3, .slice e3 k3 f3, .int .i64 q3] (sS s)) := ⟨A3.out.1.below hb9 A3.out.1.lt, stR.below A3.out.2 hb9⟩
  replace A4 : Hid (bksN.lies 0 w7 [(.slice aA4 zA4 cA4)] (lL s k)) := bksN.below A4.out hb9
  replace A5 : Hid (bksR.lies 0 w7 [(.slice aA5 zA5 cA5)] (lL s k)) := bksR.below A5.out hb9
  replace A6 : Hid (Box w7 w6.heap.size 33 #[.slice a6 n6 c6, .slice b6 m6 d6, .slice e6 k6 f6, .int .i64 q6] ∧ stN.lies 0 w7 [.slice a6 n6 c6, .slice b6 m6 d6, .slice e6 k6 f6, .int .i64 q6] (fS s k)) := ⟨A6.out.1.below hb9 A6.out.1.lt, stN.below A6.out.2 hb9⟩
  replace HB : Hid (Below w.heap.size w w7) := below_any HB.out hb9
  obtain ⟨X7, hX7⟩ : ∃ X, X = w7.alloc (.cells #[.slice a7 n7 c7, .slice b7 m7 d7, .slice e7 k7 f7, .int .i64 q7] 26) := ⟨_, rfl⟩
  have hbX : Below w7.heap.size w7 X7 := by rw [hX7]; exact (Below.refl _ _).alloc (Nat.le_refl _) _
  have A7 : Hid (Box X7 w7.heap.size 26 #[.slice a7 n7 c7, .slice b7 m7 d7, .slice e7 k7 f7, .int .i64 q7] ∧ stR.lies 0 X7 [.slice a7 n7 c7, .slice b7 m7 d7, .slice e7 k7 f7, .int .i64 q7] (fS s k)) := ⟨by rw [hX7]; exact Box.new _ _ _, stR.below (stR.weaken (stR.olies ho9) (Nat.zero_le _)) hbX⟩
  replace A0 : Hid (Box X7 w.heap.size 26 #[.slice a0 n0 c0, .slice b0 m0 d0, .slice e0 k0 f0, .int .i64 q0] ∧ stR.lies 0 X7 [.slice a0 n0 c0, .slice b0 m0 d0, .slice e0 k0 f0, .int .i64 q0] s) := ⟨A0.out.1.below hbX A0.out.1.lt, stR.below A0.out.2 hbX⟩
  replace A1 : Hid (Box X7 w1.heap.size 33 #[.slice a1 n1 c1, .slice b1 m1 d1, .slice e1 k1 f1, .int .i64 q1] ∧ stN.lies 0 X7 [.slice a1 n1 c1, .slice b1 m1 d1, .slice e1 k1 f1, .int .i64 q1] s) := ⟨A1.out.1.below hbX A1.out.1.lt, stN.below A1.out.2 hbX⟩
  replace A2 : Hid (Box X7 w2.heap.size 33 #[.slice a2 n2 c2, .slice b2 m2 d2, .slice e2 k2 f2, .int .i64 q2] ∧ stN.lies 0 X7 [.slice a2 n2 c2, .slice b2 m2 d2, .slice e2 k2 f2, .int .i64 q2] (sS s)) := ⟨A2.out.1.below hbX A2.out.1.lt, stN.below A2.out.2 hbX⟩
  replace A3 : Hid (Box X7 w3.heap.size 26 #[.slice a3 n3 c3, .slice b3 m3 d3, .slice e3 k3 f3, .int .i64 q3] ∧ stR.lies 0 X7 [.slice a3 n3 c3, .slice b3 m3 d3, .slice e3 k3 f3, .int .i64 q3] (sS s)) := ⟨A3.out.1.below hbX A3.out.1.lt, stR.below A3.out.2 hbX⟩
  replace A4 : Hid (bksN.lies 0 X7 [(.slice aA4 zA4 cA4)] (lL s k)) := bksN.below A4.out hbX
  replace A5 : Hid (bksR.lies 0 X7 [(.slice aA5 zA5 cA5)] (lL s k)) := bksR.below A5.out hbX
  replace A6 : Hid (Box X7 w6.heap.size 33 #[.slice a6 n6 c6, .slice b6 m6 d6, .slice e6 k6 f6, .int .i64 q6] ∧ stN.lies 0 X7 [.slice a6 n6 c6, .slice b6 m6 d6, .slice e6 k6 f6, .int .i64 q6] (fS s k)) := ⟨A6.out.1.below hbX A6.out.1.lt, stN.below A6.out.2 hbX⟩
  replace HB : Hid (Below w.heap.size w X7) := below_any HB.out hbX
  clear HC ho9 hb9 hbX
  go_upto_region 8 with fail
  rw [← hX7]
  clear hX7
  have HC := alikeL_same 0 0 [.slice a2 n2 c2, .slice b2 m2 d2, .slice e2 k2 f2, .int .i64 q2] [.slice a3 n3 c3, .slice b3 m3 d3, .slice e3 k3 f3, .int .i64 q3] (sS s) X7 A2.out.2 A3.out.2
  obtain ⟨A2c0, A2c1, A2c2, A2c3, -⟩ := A2.out.1.four
  obtain ⟨A3c0, A3c1, A3c2, A3c3, -⟩ := A3.out.1.four
  go_wp2_with (go_at_call 18; refine (num_any _ _).mono ?_; rintro e9 wn ⟨rfl, rfl⟩)
  clear A2c0 A2c1 A2c2 A2c3 A3c0 A3c1 A3c2 A3c3
  refine HC.mono ?_
  rintro e9 w8 ⟨rfl, hb9⟩
  replace A0 : Hid (Box w8 w.heap.size 26 #[.slice a0 n0 c0, .slice b0 m0 d0, .slice e0 k0 f0, .int .i64 q0] ∧ stR.lies 0 w8 [.slice a0 n0 c0, .slice b0 m0 d0, .slice e0 k0 f0, .int .i64 q0] s) := ⟨A0.out.1.below hb9 A0.out.1.lt, stR.below A0.out.2 hb9⟩
  replace A1 : Hid (Box w8 w1.heap.size 33 #[.slice a1 n1 c1, .slice b1 m1 d1, .slice e1 k1 f1, .int .i64 q1] ∧ stN.lies 0 w8 [.slice a1 n1 c1, .slice b1 m1 d1, .slice e1 k1 f1, .int .i64 q1] s) := ⟨A1.out.1.below hb9 A1.out.1.lt, stN.below A1.out.2 hb9⟩
  replace A2 : Hid (Box w8 w2.heap.size 33 #[.slice a2 n2 c2, .slice b2 m2 d2, .slice e2 k2 f2, .int .i64 q2] ∧ stN.lies 0 w8 [.slice a2 n2 c2, .slice b2 m2 d2, .slice e2 k2 f2, .int .i64 q2] (sS s)) := ⟨A2.out.1.below hb9 A2.out.1.lt, stN.below A2.out.2 hb9⟩
  replace A3 : Hid (Box w8 w3.heap.size 26 #[.slice a3 n3 c3, .slice b3 m3 d3, .slice e3 k3 f3, .int .i64 q3] ∧ stR.lies 0 w8 [.slice a3 n3 c3, .slice b3 m3 d3, .slice e3 k3 f3, .int .i64 q3] (sS s)) := ⟨A3.out.1.below hb9 A3.out.1.lt, stR.below A3.out.2 hb9⟩
  replace A4 : Hid (bksN.lies 0 w8 [(.slice aA4 zA4 cA4)] (lL s k)) := bksN.below A4.out hb9
  replace A5 : Hid (bksR.lies 0 w8 [(.slice aA5 zA5 cA5)] (lL s k)) := bksR.below A5.out hb9
  replace A6 : Hid (Box w8 w6.heap.size 33 #[.slice a6 n6 c6, .slice b6 m6 d6, .slice e6 k6 f6, .int .i64 q6] ∧ stN.lies 0 w8 [.slice a6 n6 c6, .slice b6 m6 d6, .slice e6 k6 f6, .int .i64 q6] (fS s k)) := ⟨A6.out.1.below hb9 A6.out.1.lt, stN.below A6.out.2 hb9⟩
  replace A7 : Hid (Box w8 w7.heap.size 26 #[.slice a7 n7 c7, .slice b7 m7 d7, .slice e7 k7 f7, .int .i64 q7] ∧ stR.lies 0 w8 [.slice a7 n7 c7, .slice b7 m7 d7, .slice e7 k7 f7, .int .i64 q7] (fS s k)) := ⟨A7.out.1.below hb9 A7.out.1.lt, stR.below A7.out.2 hb9⟩
  replace HB : Hid (Below w.heap.size w w8) := below_any HB.out hb9
  clear HC hb9
  have HC := alikeBlocks_any 0 0 _ _ (lL s k) (lL s k) w8 A4.out A5.out
  rw [if_pos rfl] at HC
  go_wp2_with (go_at_call 18; refine (num_any _ _).mono ?_; rintro e9 wn ⟨rfl, rfl⟩)
  refine HC.mono ?_
  rintro e9 w9 ⟨rfl, hb9⟩
  replace A0 : Hid (Box w9 w.heap.size 26 #[.slice a0 n0 c0, .slice b0 m0 d0, .slice e0 k0 f0, .int .i64 q0] ∧ stR.lies 0 w9 [.slice a0 n0 c0, .slice b0 m0 d0, .slice e0 k0 f0, .int .i64 q0] s) := ⟨A0.out.1.below hb9 A0.out.1.lt, stR.below A0.out.2 hb9⟩
  replace A1 : Hid (Box w9 w1.heap.size 33 #[.slice a1 n1 c1, .slice b1 m1 d1, .slice e1 k1 f1, .int .i64 q1] ∧ stN.lies 0 w9 [.slice a1 n1 c1, .slice b1 m1 d1, .slice e1 k1 f1, .int .i64 q1] s) := ⟨A1.out.1.below hb9 A1.out.1.lt, stN.below A1.out.2 hb9⟩
  replace A2 : Hid (Box w9 w2.heap.size 33 #[.slice a2 n2 c2, .slice b2 m2 d2, .slice e2 k2 f2, .int .i64 q2] ∧ stN.lies 0 w9 [.slice a2 n2 c2, .slice b2 m2 d2, .slice e2 k2 f2, .int .i64 q2] (sS s)) := ⟨A2.out.1.below hb9 A2.out.1.lt, stN.below A2.out.2 hb9⟩
  replace A3 : Hid (Box w9 w3.heap.size 26 #[.slice a3 n3 c3, .slice b3 m3 d3, .slice e3 k3 f3, .int .i64 q3] ∧ stR.lies 0 w9 [.slice a3 n3 c3, .slice b3 m3 d3, .slice e3 k3 f3, .int .i64 q3] (sS s)) := ⟨A3.out.1.below hb9 A3.out.1.lt, stR.below A3.out.2 hb9⟩
  replace A4 : Hid (bksN.lies 0 w9 [(.slice aA4 zA4 cA4)] (lL s k)) := bksN.below A4.out hb9
  replace A5 : Hid (bksR.lies 0 w9 [(.slice aA5 zA5 cA5)] (lL s k)) := bksR.below A5.out hb9
  replace A6 : Hid (Box w9 w6.heap.size 33 #[.slice a6 n6 c6, .slice b6 m6 d6, .slice e6 k6 f6, .int .i64 q6] ∧ stN.lies 0 w9 [.slice a6 n6 c6, .slice b6 m6 d6, .slice e6 k6 f6, .int .i64 q6] (fS s k)) := ⟨A6.out.1.below hb9 A6.out.1.lt, stN.below A6.out.2 hb9⟩
  replace A7 : Hid (Box w9 w7.heap.size 26 #[.slice a7 n7 c7, .slice b7 m7 d7, .slice e7 k7 f7, .int .i64 q7] ∧ stR.lies 0 w9 [.slice a7 n7 c7, .slice b7 m7 d7, .slice e7 k7 f7, .int .i64 q7] (fS s k)) := ⟨A7.out.1.below hb9 A7.out.1.lt, stR.below A7.out.2 hb9⟩
  replace HB : Hid (Below w.heap.size w w9) := below_any HB.out hb9
  clear HC hb9
  have HC := alikeL_same 0 0 [.slice a6 n6 c6, .slice b6 m6 d6, .slice e6 k6 f6, .int .i64 q6] [.slice a7 n7 c7, .slice b7 m7 d7, .slice e7 k7 f7, .int .i64 q7] (fS s k) w9 A6.out.2 A7.out.2
  obtain ⟨A6c0, A6c1, A6c2, A6c3, -⟩ := A6.out.1.four
  obtain ⟨A7c0, A7c1, A7c2, A7c3, -⟩ := A7.out.1.four
  go_wp2_with (go_at_call 18; refine (num_any _ _).mono ?_; rintro e9 wn ⟨rfl, rfl⟩)
  clear A6c0 A6c1 A6c2 A6c3 A7c0 A7c1 A7c2 A7c3
  refine HC.mono ?_
  rintro e9 w10 ⟨rfl, hb9⟩
  replace A0 : Hid (Box w10 w.heap.size 26 #[.slice a0 n0 c0, .slice b0 m0 d0, .slice e0 k0 f0, .int .i64 q0] ∧ stR.lies 0 w10 [.slice a0 n0 c0, .slice b0 m0 d0, .slice e0 k0 f0, .int .i64 q0] s) := ⟨A0.out.1.below hb9 A0.out.1.lt, stR.below A0.out.2 hb9⟩
  replace A1 : Hid (Box w10 w1.heap.size 33 #[.slice a1 n1 c1, .slice b1 m1 d1, .slice e1 k1 f1, .int .i64 q1] ∧ stN.lies 0 w10 [.slice a1 n1 c1, .slice b1 m1 d1, .slice e1 k1 f1, .int .i64 q1] s) := ⟨A1.out.1.below hb9 A1.out.1.lt, stN.below A1.out.2 hb9⟩
  replace A2 : Hid (Box w10 w2.heap.size 33 #[.slice a2 n2 c2, .slice b2 m2 d2, .slice e2 k2 f2, .int .i64 q2] ∧ stN.lies 0 w10 [.slice a2 n2 c2, .slice b2 m2 d2, .slice e2 k2 f2, .int .i64 q2] (sS s)) := ⟨A2.out.1.below hb9 A2.out.1.lt, stN.below A2.out.2 hb9⟩
  replace A3 : Hid (Box w10 w3.heap.size 26 #[.slice a3 n3 c3, .slice b3 m3 d3, .slice e3 k3 f3, .int .i64 q3] ∧ stR.lies 0 w10 [.slice a3 n3 c3, .slice b3 m3 d3, .slice e3 k3 f3, .int .i64 q3] (sS s)) := ⟨A3.out.1.below hb9 A3.out.1.lt, stR.below A3.out.2 hb9⟩
  replace A4 : Hid (bksN.lies 0 w10 [(.slice aA4 zA4 cA4)] (lL s k)) := bksN.below A4.out hb9
  replace A5 : Hid (bksR.lies 0 w10 [(.slice aA5 zA5 cA5)] (lL s k)) := bksR.below A5.out hb9
  replace A6 : Hid (Box w10 w6.heap.size 33 #[.slice a6 n6 c6, .slice b6 m6 d6, .slice e6 k6 f6, .int .i64 q6] ∧ stN.lies 0 w10 [.slice a6 n6 c6, .slice b6 m6 d6, .slice e6 k6 f6, .int .i64 q6] (fS s k)) := ⟨A6.out.1.below hb9 A6.out.1.lt, stN.below A6.out.2 hb9⟩
  replace A7 : Hid (Box w10 w7.heap.size 26 #[.slice a7 n7 c7, .slice b7 m7 d7, .slice e7 k7 f7, .int .i64 q7] ∧ stR.lies 0 w10 [.slice a7 n7 c7, .slice b7 m7 d7, .slice e7 k7 f7, .int .i64 q7] (fS s k)) := ⟨A7.out.1.below hb9 A7.out.1.lt, stR.below A7.out.2 hb9⟩
  replace HB : Hid (Below w.heap.size w w10) := below_any HB.out hb9
  clear HC hb9
  have HC := alikeL_same 0 0 [.slice a1 n1 c1, .slice b1 m1 d1, .slice e1 k1 f1, .int .i64 q1] [.slice a0 n0 c0, .slice b0 m0 d0, .slice e0 k0 f0, .int .i64 q0] s w10 A1.out.2 A0.out.2
  obtain ⟨A0c0, A0c1, A0c2, A0c3, -⟩ := A0.out.1.four
  obtain ⟨A1c0, A1c1, A1c2, A1c3, -⟩ := A1.out.1.four
  go_wp2_with (go_at_call 18; refine (num_any _ _).mono ?_; rintro e9 wn ⟨rfl, rfl⟩)
  clear A1c0 A1c1 A1c2 A1c3 A0c0 A0c1 A0c2 A0c3
  refine HC.mono ?_
  rintro e9 w11 ⟨rfl, hb9⟩
  replace A0 : Hid (Box w11 w.heap.size 26 #[.slice a0 n0 c0, .slice b0 m0 d0, .slice e0 k0 f0, .int .i64 q0] ∧ stR.lies 0 w11 [.slice a0 n0 c0, .slice b0 m0 d0, .slice e0 k0 f0, .int .i64 q0] s) := ⟨A0.out.1.below hb9 A0.out.1.lt, stR.below A0.out.2 hb9⟩
  replace A1 : Hid (Box w11 w1.heap.size 33 #[.slice a1 n1 c1, .slice b1 m1 d1, .slice e1 k1 f1, .int .i64 q1] ∧ stN.lies 0 w11 [.slice a1 n1 c1, .slice b1 m1 d1, .slice e1 k1 f1, .int .i64 q1] s) := ⟨A1.out.1.below hb9 A1.out.1.lt, stN.below A1.out.2 hb9⟩
  replace A2 : Hid (Box w11 w2.heap.size 33 #[.slice a2 n2 c2, .slice b2 m2 d2, .slice e2 k2 f2, .int .i64 q2] ∧ stN.lies 0 w11 [.slice a2 n2 c2, .slice b2 m2 d2, .slice e2 k2 f2, .int .i64 q2] (sS s)) := ⟨A2.out.1.below hb9 A2.out.1.lt, stN.below A2.out.2 hb9⟩
  replace A3 : Hid (Box w11 w3.heap.size 26 #[.slice a3 n3 c3, .slice b3 m3 d3, .slice e3 k3 f3, .int .i64 q3] ∧ stR.lies 0 w11 [.slice a3 n3 c3, .slice b3 m3 d3, .slice e3 k3 f3, .int .i64 q3] (sS s)) := ⟨A3.out.1.below hb9 A3.out.1.lt, stR.below A3.out.2 hb9⟩
  replace A4 : Hid (bksN.lies 0 w11 [(.slice aA4 zA4 cA4)] (lL s k)) := bksN.below A4.out hb9
  replace A5 : Hid (bksR.lies 0 w11 [(.slice aA5 zA5 cA5)] (lL s k)) := bksR.below A5.out hb9
  replace A6 : Hid (Box w11 w6.heap.size 33 #[.slice a6 n6 c6, .slice b6 m6 d6, .slice e6 k6 f6, .int .i64 q6] ∧ stN.lies 0 w11 [.slice a6 n6 c6, .slice b6 m6 d6, .slice e6 k6 f6, .int .i64 q6] (fS s k)) := ⟨A6.out.1.below hb9 A6.out.1.lt, stN.below A6.out.2 hb9⟩
  replace A7 : Hid (Box w11 w7.heap.size 26 #[.slice a7 n7 c7, .slice b7 m7 d7, .slice e7 k7 f7, .int .i64 q7] ∧ stR.lies 0 w11 [.slice a7 n7 c7, .slice b7 m7 d7, .slice e7 k7 f7, .int .i64 q7] (fS s k)) := ⟨A7.out.1.below hb9 A7.out.1.lt, stR.below A7.out.2 hb9⟩
  replace HB : Hid (Below w.heap.size w w11) := below_any HB.out hb9
  clear HC hb9
  have HC := alive_any w11
  go_wp2_with (go_at_call 18; refine (num_any _ _).mono ?_; rintro e9 wn ⟨rfl, rfl⟩)
  refine HC.mono ?_
  rintro e9 w12 ⟨rfl, hb9⟩
  replace A0 : Hid (Box w12 w.heap.size 26 #[.slice a0 n0 c0, .slice b0 m0 d0, .slice e0 k0 f0, .int .i64 q0] ∧ stR.lies 0 w12 [.slice a0 n0 c0, .slice b0 m0 d0, .slice e0 k0 f0, .int .i64 q0] s) := ⟨A0.out.1.below hb9 A0.out.1.lt, stR.below A0.out.2 hb9⟩
  replace A1 : Hid (Box w12 w1.heap.size 33 #[.slice a1 n1 c1, .slice b1 m1 d1, .slice e1 k1 f1, .int .i64 q1] ∧ stN.lies 0 w12 [.slice a1 n1 c1, .slice b1 m1 d1, .slice e1 k1 f1, .int .i64 q1] s) := ⟨A1.out.1.below hb9 A1.out.1.lt, stN.below A1.out.2 hb9⟩
  replace A2 : Hid (Box w12 w2.heap.size 33 #[.slice a2 n2 c2, .slice b2 m2 d2, .slice e2 k2 f2, .int .i64 q2] ∧ stN.lies 0 w12 [.slice a2 n2 c2, .slice b2 m2 d2, .slice e2 k2 f2, .int .i64 q2] (sS s)) := ⟨A2.out.1.below hb9 A2.out.1.lt, stN.below A2.out.2 hb9⟩
  replace A3 : Hid (Box w12 w3.heap.size 26 #[.slice a3 n3 c3, .slice b3 m3 d3, .slice e3 k3 f3, .int .i64 q3] ∧ stR.lies 0 w12 [.slice a3 n3 c3, .slice b3 m3 d3, .slice e3 k3 f3, .int .i64 q3] (sS s)) := ⟨A3.out.1.below hb9 A3.out.1.lt, stR.below A3.out.2 hb9⟩
  replace A4 : Hid (bksN.lies 0 w12 [(.slice aA4 zA4 cA4)] (lL s k)) := bksN.below A4.out hb9
  replace A5 : Hid (bksR.lies 0 w12 [(.slice aA5 zA5 cA5)] (lL s k)) := bksR.below A5.out hb9
  replace A6 : Hid (Box w12 w6.heap.size 33 #[.slice a6 n6 c6, .slice b6 m6 d6, .slice e6 k6 f6, .int .i64 q6] ∧ stN.lies 0 w12 [.slice a6 n6 c6, .slice b6 m6 d6, .slice e6 k6 f6, .int .i64 q6] (fS s k)) := ⟨A6.out.1.below hb9 A6.out.1.lt, stN.below A6.out.2 hb9⟩
  replace A7 : Hid (Box w12 w7.heap.size 26 #[.slice a7 n7 c7, .slice b7 m7 d7, .slice e7 k7 f7, .int .i64 q7] ∧ stR.lies 0 w12 [.slice a7 n7 c7, .slice b7 m7 d7, .slice e7 k7 f7, .int .i64 q7] (fS s k)) := ⟨A7.out.1.below hb9 A7.out.1.lt, stR.below A7.out.2 hb9⟩
  replace HB : Hid (Below w.heap.size w w12) := below_any HB.out hb9
  clear HC hb9
  have HQ : Hid (post (.returned (.bool true)) w12) := HPo.out _ HB.out
  go_wp2
  exact HQ.out

set_option maxRecDepth 100000 in
theorem lifted (os : Os) (started : os.Started) (H : Type) (enc : TypeId × Value → H) :
    ReturnsInHanded {} Try.checked os 4 .any (Rows.logSealsSpec.pre6 enc Try.prog Try.f4 Rows.logSealsRow.domain false) (Rows.logSealsSpec.post enc Try.prog Try.f4 false true false false) := by
  refine returnsInHanded_of_change_sized (C := Try.checked) own started (by kernel_rfl) Try.func4
    (ChangeSpec.witness6 (enc := enc) (C := Try.checked) false ⟨#[], #[.agg #[.slice none 0 0, .slice none 0 0, .slice none 0 0, .int .i64 0], .int .i64 0], []⟩ 8 (by kernel_rfl) (by kernel_rfl) (by kernel_rfl) (by kernel_rfl)) ?_
  intro W base args ds gs before hval0 hW hcnd hsz0 _
  have hval : ∀ (j : Nat) t v, Try.f4.params[j]? = some t → args[j]? = some v → Value.okWide Try.prog W .any base t v := hval0
  have hW' := hW
  obtain ⟨p, q, hA0, hV, rfl, hfz, hnd⟩ := hW
  have hA : DataW.TrodAll enc Try.prog W 0 (fun _ => true) true Try.f4.params.toList args.toList ds p := hA0
  have hsz : (DataW.weightsEach Try.prog (Try.f4.params.toList ++ Rows.logSealsSpec.plain.varTypes Try.prog) (ds ++ gs)).all (· ≤ reachBytes) = true := hsz0
  clear hsz0
  rw [Try.params4] at hA hval hsz
  obtain ⟨v0, vs0, d0, ds0, p0, q0, hargs, rfl, rfl, h0, r0⟩ := trodAll_cons hA
  obtain ⟨v1, vs1, d1, ds1, p1, q1, rfl, rfl, rfl, h1, r1⟩ := trodAll_cons r0
  obtain ⟨rfl, rfl, rfl⟩ := trodAll_nil r1
  obtain rfl : args = #[v0, v1] := by cases args; simp_all
  obtain ⟨rfl, rfl⟩ := trodVars_none hV
  obtain ⟨cs0, rfl, hc0⟩ := okWide_struct Try.underlying26 (hval 0 26 v0 rfl rfl)
  obtain ⟨us0, rfl⟩ := as_list cs0
  have k0 := h0
  have lt0 : ∀ x ∈ p0, x.block < W.heap.size := by obtain ⟨m, hm⟩ := k0; exact DataW.trod_lt m _ _ _ hm
  obtain ⟨m0, hm0⟩ := h0
  obtain ⟨s0, A0, F0'⟩ := stR.reads hm0
  have F0 := F0' fun n hn => by have := List.all_eq_true.1 hsz _ (DataW.weights_mem_each (j := 0) rfl rfl n hn); simpa using this
  obtain ⟨a1, rfl, rfl, rfl, w1⟩ := open_int Try.underlying3 (hval 1 3 v1 rfl rfl) h1
  have b1 := bounds_i64 w1
  clear hA0 hval0
  refine (walk 0 us0 s0 a1 W A0 (fits_st F0)).mono fun e W' ⟨he, bel⟩ => ?_
  subst he
  exact ⟨_, rfl, _, _, _, [], _, [], hW', trodAll_mk1 (shut_bool Try.underlying4 _), (trodAll_cons_mk (Below.trod laidOut (by kernel_rfl) (of_decide_eq_true (by kernel_rfl)) k0 bel lt0) (trodAll_cons_mk (shut_int Try.underlying3 w1) trodAll_mk0)), rfl, bel.frame _, fun h => by cases h⟩

theorem over : Rows.logSealsRow.holds Try.pinned (OpenSpec.ofChange Rows.logSealsSpec) :=
  OpenClaim.holds_of_wide 4 Try.f4 rfl rfl rfl rfl rfl rfl rfl ⟨rfl, rfl, rfl, rfl, rfl⟩ rfl rfl rfl rfl rfl (by kernel_rfl) Try.func4 (by kernel_rfl)
    (of_decide_eq_true (by kernel_rfl)) (by unfold Func.isWrapper; first | (rw [if_pos (by decide +kernel)]; kernel_rfl) | (rw [if_neg (by decide +kernel)]; exact ⟨rfl, rfl⟩))
    (fun os started H enc _ => lifted os started H enc)

end Go.Proofs.Ytefmajjbkioddaa.logSeals

namespace Go.Proofs.Ytefmajjbkioddaa
theorem logSeals_holds : Rows.LogSealsSaid := logSeals.over
#print axioms logSeals_holds
end Go.Proofs.Ytefmajjbkioddaa
