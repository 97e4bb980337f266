/-
  LogAgain, proved: for every store and every number (as great as the form reads them): the call returns true, and changes nothing that was in memory. No condition of its own.
-/
import Derived.Test.YtkpckadicjdieaaLAll
import Derived.Test.YtkpckadicjdieaaLPut
import Derived.Test.YtkpckadicjdieaaLAlive
import Derived.Test.YtkpckadicjdieaaLOf
import Derived.Test.YtkpckadicjdieaaLTool
import Derived.Test.YtkpckadicjdieaaVMath2
import Derived.Test.YtkpckadicjdieaaRLCheck
namespace Go.Proofs.Ytkpckadicjdieaa.logAgain
open Go.ChangeShapes Go.WideShapes Go.ChangeAt Go.RowKit
set_option linter.unusedVariables false

set_option maxRecDepth 100000 in
set_option maxHeartbeats 16000000 in
theorem walk (n0 : Nat) (us : List Value) (s : St) (at1 : Int) (w : World) (h : stR.lies n0 w us s) (hf : FitsL s) :
    Calls Try.prog 6 #[.agg us.toArray, .int .i64 at1] w fun e w' => e = .returned (.bool true) ∧ Below w.heap.size w w' := by
  obtain ⟨post, hpost⟩ : ∃ post : Ending → World → Prop, post = fun e w' => e = .returned (.bool true) ∧ Below w.heap.size w w' := ⟨_, rfl⟩
  have HPo : Hid (∀ w', Below w.heap.size w w' → post (.returned (.bool true)) w') := fun w' h => by rw [hpost]; exact ⟨rfl, h⟩
  rw [← hpost]
  clear hpost
  obtain ⟨a0, n0, c0, b0, m0, d0, e0, k0, f0, q0, rfl⟩ := st_flatL h
  have HF : Hid (FitsL s) := hf
  obtain ⟨W, hW⟩ : ∃ W, W = w.alloc (.cells #[.slice a0 n0 c0, .slice b0 m0 d0, .slice e0 k0 f0, .int .i64 q0] 26) := ⟨_, rfl⟩
  have HB : Hid (Below w.heap.size w W) := by rw [hW]; exact (Below.refl _ _).alloc (Nat.le_refl _) _
  have A0 : Hid (Box W w.heap.size 26 #[.slice a0 n0 c0, .slice b0 m0 d0, .slice e0 k0 f0, .int .i64 q0] ∧ stR.lies 0 W [.slice a0 n0 c0, .slice b0 m0 d0, .slice e0 k0 f0, .int .i64 q0] s) := ⟨by rw [hW]; exact Box.new _ _ _, stR.below (stR.weaken h (Nat.zero_le _)) HB.out⟩
  obtain ⟨ok, hok⟩ : ∃ z, z = okE s := ⟨_, rfl⟩
  have HE : Hid (ok = okE s) := hok
  have HK0 : Hid (k0 = s.2.2.1.length ∧ k0 ≤ 9223372036854775807) := by
    obtain ⟨a9, c9, b9, d9, e9, f9, hu9, h1, h2, h3, _, h4, h5, h6⟩ := st_viewR h
    simp only [List.cons.injEq, Value.slice.injEq, and_true] at hu9
    unfold maxLen at h6
    show _ ∧ _
    omega
  clear hok
  clear h hf
  go_enter Try.func6, Try.ntmps6
  go_upto_region 1 with fail
  rw [← hW]
  clear hW
  have HC := alive_any W
  go_wp2_with (go_at_call 18; refine (num_any _ _).mono ?_; rintro e9 wn ⟨rfl, rfl⟩)
  refine HC.mono ?_
  rintro e9 w1 ⟨rfl, hb9⟩
  replace A0 : Hid (Box w1 w.heap.size 26 #[.slice a0 n0 c0, .slice b0 m0 d0, .slice e0 k0 f0, .int .i64 q0] ∧ stR.lies 0 w1 [.slice a0 n0 c0, .slice b0 m0 d0, .slice e0 k0 f0, .int .i64 q0] s) := ⟨A0.out.1.below hb9 A0.out.1.lt, stR.below A0.out.2 hb9⟩
  replace HB : Hid (Below w.heap.size w w1) := below_any HB.out hb9
  clear HC hb9
  have HC := ofL_any 0 [.slice a0 n0 c0, .slice b0 m0 d0, .slice e0 k0 f0, .int .i64 q0] s w1 A0.out.2 HF.out
  obtain ⟨A0c0, A0c1, A0c2, A0c3, -⟩ := A0.out.1.four
  go_wp2_with fail
  clear A0c0 A0c1 A0c2 A0c3
  refine HC.mono ?_
  rintro e9 w2 ⟨⟨us9, rfl, ho9⟩, hb9⟩
  obtain ⟨a1, n1, c1, b1, m1, d1, e1, k1, f1, q1, rfl⟩ := st_flat ho9
  replace A0 : Hid (Box w2 w.heap.size 26 #[.slice a0 n0 c0, .slice b0 m0 d0, .slice e0 k0 f0, .int .i64 q0] ∧ stR.lies 0 w2 [.slice a0 n0 c0, .slice b0 m0 d0, .slice e0 k0 f0, .int .i64 q0] s) := ⟨A0.out.1.below hb9 A0.out.1.lt, stR.below A0.out.2 hb9⟩
  replace HB : Hid (Below w.heap.size w w2) := below_any HB.out hb9
  obtain ⟨X2, hX2⟩ : ∃ X, X = w2.alloc (.cells #[.slice a1 n1 c1, .slice b1 m1 d1, .slice e1 k1 f1, .int .i64 q1] 33) := ⟨_, rfl⟩
  have hbX : Below w2.heap.size w2 X2 := by rw [hX2]; exact (Below.refl _ _).alloc (Nat.le_refl _) _
  have A1 : Hid (Box X2 w2.heap.size 33 #[.slice a1 n1 c1, .slice b1 m1 d1, .slice e1 k1 f1, .int .i64 q1] ∧ stN.lies 0 X2 [.slice a1 n1 c1, .slice b1 m1 d1, .slice e1 k1 f1, .int .i64 q1] s) := ⟨by rw [hX2]; exact Box.new _ _ _, stN.below (stN.weaken (stN.olies ho9) (Nat.zero_le _)) hbX⟩
  replace A0 : Hid (Box X2 w.heap.size 26 #[.slice a0 n0 c0, .slice b0 m0 d0, .slice e0 k0 f0, .int .i64 q0] ∧ stR.lies 0 X2 [.slice a0 n0 c0, .slice b0 m0 d0, .slice e0 k0 f0, .int .i64 q0] s) := ⟨A0.out.1.below hbX A0.out.1.lt, stR.below A0.out.2 hbX⟩
  replace HB : Hid (Below w.heap.size w X2) := below_any HB.out hbX
  clear HC ho9 hb9 hbX
  go_upto_region 4 with fail
  rw [← hX2]
  clear hX2
  have HC := all_any 0 [.slice a1 n1 c1, .slice b1 m1 d1, .slice e1 k1 f1, .int .i64 q1] s X2 A1.out.2
  rw [← HE.out] at HC
  obtain ⟨A1c0, A1c1, A1c2, A1c3, -⟩ := A1.out.1.four
  go_wp2_with fail
  clear A1c0 A1c1 A1c2 A1c3
  refine HC.mono ?_
  rintro e9 w3 ⟨⟨v9, L1, rfl, ho9, hA9, hN9⟩, hb9⟩
  have HL1 : Hid ((Ok s → AllOf s L1) ∧ (¬ Ok s → L1 = [])) := ⟨hA9, hN9⟩
  obtain ⟨aA2, cA2, _, hv9, -⟩ := Shape.list_own (S := bkN) (ht := Try.underlying31) (hc := cells31) ho9
  obtain rfl : v9 = _ := (List.cons.inj hv9).1
  obtain ⟨zA2, hz9⟩ : ∃ z, z = (L1).length := ⟨_, rfl⟩
  rw [← hz9] at ho9 ⊢
  have A2 : Hid (bksN.lies 0 w3 [.slice aA2 zA2 cA2] L1) := bksN.weaken (bksN.olies ho9) (Nat.zero_le _)
  have A2l : Hid (zA2 = (L1).length) := hz9
  replace A0 : Hid (Box w3 w.heap.size 26 #[.slice a0 n0 c0, .slice b0 m0 d0, .slice e0 k0 f0, .int .i64 q0] ∧ stR.lies 0 w3 [.slice a0 n0 c0, .slice b0 m0 d0, .slice e0 k0 f0, .int .i64 q0] s) := ⟨A0.out.1.below hb9 A0.out.1.lt, stR.below A0.out.2 hb9⟩
  replace A1 : Hid (Box w3 w2.heap.size 33 #[.slice a1 n1 c1, .slice b1 m1 d1, .slice e1 k1 f1, .int .i64 q1] ∧ stN.lies 0 w3 [.slice a1 n1 c1, .slice b1 m1 d1, .slice e1 k1 f1, .int .i64 q1] s) := ⟨A1.out.1.below hb9 A1.out.1.lt, stN.below A1.out.2 hb9⟩
  replace HB : Hid (Below w.heap.size w w3) := below_any HB.out hb9
  clear HC ho9 hb9 hv9 hz9 hA9 hN9
  have hbA2 : zA2 ≤ 9223372036854775807 := by
    obtain ⟨_, _, e8, _, h8, _⟩ := Shape.list_len (S := bkN) (ht := Try.underlying31) (hc := cells31) A2.out
    unfold maxLen at h8
    have := A2l.out
    omega
  have hlA2 := run_len Try.underlying31 aA2 zA2 cA2
  have hl0 := run_len Try.underlying24 e0 k0 f0
  obtain ⟨A0c0, A0c1, A0c2, A0c3, -⟩ := A0.out.1.four
  rcases okE_cases s with ⟨hok, hOk⟩ | ⟨hok, hOk⟩
  case inr =>
    obtain rfl : ok = 9 := HE.out.trans hok
    have HC := rcheckL_any 0 [.slice a0 n0 c0, .slice b0 m0 d0, .slice e0 k0 f0, .int .i64 q0] s w3 A0.out.2
    rw [hok] at HC
    clear hok
    go_wp2_with (go_at_call 18; refine (num_any _ _).mono ?_; rintro e9 wn ⟨rfl, rfl⟩)
    refine HC.mono ?_
    rintro e9 w9 ⟨rfl, hb9⟩
    have HQ : Hid (post (.returned (.bool true)) w9) := HPo.out _ (below_any HB.out hb9)
    clear HC hb9
    go_wp2
    exact HQ.out
  obtain rfl : ok = 0 := HE.out.trans hok
  have HOK : Hid (Ok s) := hOk
  clear hok hOk
  by_cases hz : zA2 = 0
  · subst hz
    have HQ : Hid (post (.returned (.bool true)) w3) := HPo.out _ HB.out
    go_wp2_with (go_at_call 18; refine (num_any _ _).mono ?_; rintro e9 wn ⟨rfl, rfl⟩)
    exact HQ.out
  have hz0 : ¬ (zA2 : Int) = 0 := by omega
  have hzb : ((zA2 : Int) == 0) = false := by simpa using hz0
  have hzp : (0 : Int) < (zA2 : Int) := by omega
  have hk0 : k0 ≤ 9223372036854775807 := HK0.out.2
  by_cases h8 : 8 ≤ k0
  · have h8i : (8 : Int) ≤ (k0 : Int) := by omega
    have HQ : Hid (post (.returned (.bool true)) w3) := HPo.out _ HB.out
    go_wp2_with (go_at_call 18; refine (num_any _ _).mono ?_; rintro e9 wn ⟨rfl, rfl⟩)
    exact HQ.out
  have h8i : (k0 : Int) < 8 := by omega
  have h8b : decide ((8 : Int) ≤ (k0 : Int)) = false := by simp; omega
  have hfew := (HL1.out.1 HOK.out).few HOK.out
  obtain ⟨r, hr1, hr2⟩ := mod_pos at1 zA2 (by omega) (by have := A2l.out; omega)
  obtain ⟨x, hx⟩ := get_lt (l := L1) (k := r) (by rw [← A2l.out]; exact hr1)
  have hri : (r : Int) < (zA2 : Int) := by omega
  have HXT : Hid (isThere s x) := ((HL1.out.1 HOK.out).mem x).1 (List.mem_of_getElem? hx)
  have HPE : Hid (pE s x = 0) := pE_ok HOK.out (there_may HOK.out HXT.out) (by have := HK0.out.1; omega)
  obtain ⟨gb1, go1, gx1, gz1, hix1, p0, p1, p2, hA1, i1, i2, _⟩ := bks_atN A2.out r x hx
  have HBK : Hid (bkN.lies 0 w3 [.int .i64 x.1, .int .i64 x.2.1, .slice gx1 x.2.2.length gz1] x) := bk_mk hA1 i1 i2
  have HAL : Hid (AllOf (pS s x) L1) := (HL1.out.1 HOK.out).same fun o i => again_last HPE.out HXT.out o i
  have HOK2 : Hid (Ok (pS s x)) := pS_ok HPE.out
  have HP0 := HPE.out
  obtain ⟨xo, xi, xd⟩ := x
  simp only at p0 p1 p2 HBK
  obtain ⟨xl, hxl⟩ : ∃ m, m = xd.length := ⟨_, rfl⟩
  rw [← hxl] at p2 HBK
  obtain ⟨X, hX⟩ : ∃ X, X = w3.alloc (.cells #[.int .i64 xo, .int .i64 xi, .slice gx1 xl gz1] 36) := ⟨_, rfl⟩
  have hbX : Below w3.heap.size w3 X := by rw [hX]; exact (Below.refl _ _).alloc (Nat.le_refl _) _
  have B1 : Hid (Box X w3.heap.size 36 #[.int .i64 xo, .int .i64 xi, .slice gx1 xl gz1] ∧ bkN.lies 0 X [.int .i64 xo, .int .i64 xi, .slice gx1 xl gz1] (xo, xi, xd)) := ⟨by rw [hX]; exact Box.new _ _ _, bkN.below HBK.out hbX⟩
  clear hfew hr1 hx hA1 i1 i2 hxl HBK hz h8 HPE
  replace A0 : Hid (Box X w.heap.size 26 #[.slice a0 n0 c0, .slice b0 m0 d0, .slice e0 k0 f0, .int .i64 q0] ∧ stR.lies 0 X [.slice a0 n0 c0, .slice b0 m0 d0, .slice e0 k0 f0, .int .i64 q0] s) := ⟨A0.out.1.below hbX A0.out.1.lt, stR.below A0.out.2 hbX⟩
  replace A1 : Hid (Box X w2.heap.size 33 #[.slice a1 n1 c1, .slice b1 m1 d1, .slice e1 k1 f1, .int .i64 q1] ∧ stN.lies 0 X [.slice a1 n1 c1, .slice b1 m1 d1, .slice e1 k1 f1, .int .i64 q1] s) := ⟨A1.out.1.below hbX A1.out.1.lt, stN.below A1.out.2 hbX⟩
  replace A2 : Hid (bksN.lies 0 X [(.slice aA2 zA2 cA2)] L1) := bksN.below A2.out hbX
  replace HB : Hid (Below w.heap.size w X) := below_any HB.out hbX
  clear hbX
  go_upto_region 8 with (go_at_call 18; refine (num_any _ _).mono ?_; rintro e9 wn ⟨rfl, rfl⟩)
  rw [← hX]
  clear hX A0c0 A0c1 A0c2 A0c3 p0 p1 p2 hr2 hix1 hri hzb h8b
  obtain ⟨B1c0, B1c1, B1c2, -⟩ := B1.out.1.three
  have HC := put_any 0 0 [.slice a1 n1 c1, .slice b1 m1 d1, .slice e1 k1 f1, .int .i64 q1] s [.int .i64 xo, .int .i64 xi, .slice gx1 xl gz1] (xo, xi, xd) X A1.out.2 B1.out.2 (Nat.zero_le _)
  rw [HP0] at HC
  obtain ⟨A1c0, A1c1, A1c2, A1c3, -⟩ := A1.out.1.four
  go_wp2_with fail
  clear A1c0 A1c1 A1c2 A1c3
  refine HC.mono ?_
  rintro e9 w4 ⟨⟨us9, rfl, ho9⟩, hb9⟩
  obtain ⟨a3, n3, c3, b3, m3, d3, e3, k3, f3, q3, rfl⟩ := st_flat ho9
  replace A0 : Hid (Box w4 w.heap.size 26 #[.slice a0 n0 c0, .slice b0 m0 d0, .slice e0 k0 f0, .int .i64 q0] ∧ stR.lies 0 w4 [.slice a0 n0 c0, .slice b0 m0 d0, .slice e0 k0 f0, .int .i64 q0] s) := ⟨A0.out.1.below hb9 A0.out.1.lt, stR.below A0.out.2 hb9⟩
  replace A1 : Hid (Box w4 w2.heap.size 33 #[.slice a1 n1 c1, .slice b1 m1 d1, .slice e1 k1 f1, .int .i64 q1] ∧ stN.lies 0 w4 [.slice a1 n1 c1, .slice b1 m1 d1, .slice e1 k1 f1, .int .i64 q1] s) := ⟨A1.out.1.below hb9 A1.out.1.lt, stN.below A1.out.2 hb9⟩
  replace A2 : Hid (bksN.lies 0 w4 [(.slice aA2 zA2 cA2)] L1) := bksN.below A2.out hb9
  replace HB : Hid (Below w.heap.size w w4) := below_any HB.out hb9
  obtain ⟨X4, hX4⟩ : ∃ X, X = w4.alloc (.cells #[.slice a3 n3 c3, .slice b3 m3 d3, .slice e3 k3 f3, .int .i64 q3] 33) := ⟨_, rfl⟩
  have hbX : Below w4.heap.size w4 X4 := by rw [hX4]; exact (Below.refl _ _).alloc (Nat.le_refl _) _
  have A3 : Hid (Box X4 w4.heap.size 33 #[.slice a3 n3 c3, .slice b3 m3 d3, .slice e3 k3 f3, .int .i64 q3] ∧ stN.lies 0 X4 [.slice a3 n3 c3, .slice b3 m3 d3, .slice e3 k3 f3, .int .i64 q3] (pS s (xo, xi, xd))) := ⟨by rw [hX4]; exact Box.new _ _ _, stN.below (stN.weaken (stN.olies ho9) (Nat.zero_le _)) hbX⟩
  replace A0 : Hid (Box X4 w.heap.size 26 #[.slice a0 n0 c0, .slice b0 m0 d0, .slice e0 k0 f0, .int .i64 q0] ∧ stR.lies 0 X4 [.slice a0 n0 c0, .slice b0 m0 d0, .slice e0 k0 f0, .int .i64 q0] s) := ⟨A0.out.1.below hbX A0.out.1.lt, stR.below A0.out.2 hbX⟩
  replace A1 : Hid (Box X4 w2.heap.size 33 #[.slice a1 n1 c1, .slice b1 m1 d1, .slice e1 k1 f1, .int .i64 q1] ∧ stN.lies 0 X4 [.slice a1 n1 c1, .slice b1 m1 d1, .slice e1 k1 f1, .int .i64 q1] s) := ⟨A1.out.1.below hbX A1.out.1.lt, stN.below A1.out.2 hbX⟩
  replace A2 : Hid (bksN.lies 0 X4 [(.slice aA2 zA2 cA2)] L1) := bksN.below A2.out hbX
  replace HB : Hid (Below w.heap.size w X4) := below_any HB.out hbX
  clear HC ho9 hb9 hbX
  go_upto_region 9 with fail
  rw [← hX4]
  clear hX4
  clear B1c0 B1c1 B1c2 B1 HP0
  have HC := all_any 0 [.slice a3 n3 c3, .slice b3 m3 d3, .slice e3 k3 f3, .int .i64 q3] (pS s (xo, xi, xd)) X4 A3.out.2
  rw [okE_ok HOK2.out] at HC
  obtain ⟨A3c0, A3c1, A3c2, A3c3, -⟩ := A3.out.1.four
  go_wp2_with fail
  clear A3c0 A3c1 A3c2 A3c3
  refine HC.mono ?_
  rintro e9 w5 ⟨⟨v9, L2, rfl, ho9, hA9, hN9⟩, hb9⟩
  have HL2 : Hid ((Ok (pS s (xo, xi, xd)) → AllOf (pS s (xo, xi, xd)) L2) ∧ (¬ Ok (pS s (xo, xi, xd)) → L2 = [])) := ⟨hA9, hN9⟩
  obtain ⟨aA4, cA4, _, hv9, -⟩ := Shape.list_own (S := bkN) (ht := Try.underlying31) (hc := cells31) ho9
  obtain rfl : v9 = _ := (List.cons.inj hv9).1
  obtain ⟨zA4, hz9⟩ : ∃ z, z = (L2).length := ⟨_, rfl⟩
  rw [← hz9] at ho9 ⊢
  have A4 : Hid (bksN.lies 0 w5 [.slice aA4 zA4 cA4] L2) := bksN.weaken (bksN.olies ho9) (Nat.zero_le _)
  have A4l : Hid (zA4 = (L2).length) := hz9
  replace A0 : Hid (Box w5 w.heap.size 26 #[.slice a0 n0 c0, .slice b0 m0 d0, .slice e0 k0 f0, .int .i64 q0] ∧ stR.lies 0 w5 [.slice a0 n0 c0, .slice b0 m0 d0, .slice e0 k0 f0, .int .i64 q0] s) := ⟨A0.out.1.below hb9 A0.out.1.lt, stR.below A0.out.2 hb9⟩
  replace A1 : Hid (Box w5 w2.heap.size 33 #[.slice a1 n1 c1, .slice b1 m1 d1, .slice e1 k1 f1, .int .i64 q1] ∧ stN.lies 0 w5 [.slice a1 n1 c1, .slice b1 m1 d1, .slice e1 k1 f1, .int .i64 q1] s) := ⟨A1.out.1.below hb9 A1.out.1.lt, stN.below A1.out.2 hb9⟩
  replace A2 : Hid (bksN.lies 0 w5 [(.slice aA2 zA2 cA2)] L1) := bksN.below A2.out hb9
  replace A3 : Hid (Box w5 w4.heap.size 33 #[.slice a3 n3 c3, .slice b3 m3 d3, .slice e3 k3 f3, .int .i64 q3] ∧ stN.lies 0 w5 [.slice a3 n3 c3, .slice b3 m3 d3, .slice e3 k3 f3, .int .i64 q3] (pS s (xo, xi, xd))) := ⟨A3.out.1.below hb9 A3.out.1.lt, stN.below A3.out.2 hb9⟩
  replace HB : Hid (Below w.heap.size w w5) := below_any HB.out hb9
  clear HC ho9 hb9 hv9 hz9 hA9 hN9
  obtain rfl : L1 = L2 := HAL.out.eq (HL2.out.1 HOK2.out)
  have hbA4 : zA4 ≤ 9223372036854775807 := by
    obtain ⟨_, _, e8, _, h8, _⟩ := Shape.list_len (S := bkN) (ht := Try.underlying31) (hc := cells31) A4.out
    unfold maxLen at h8
    have := A4l.out
    omega
  have hlA4 := run_len Try.underlying31 aA4 zA4 cA4
  clear A0 A1 A3 HOK HOK2 HL1 HL2 HE HAL HXT HK0 h8i
  obtain rfl : zA4 = zA2 := by rw [A2l.out, A4l.out]
  clear hbA2 hlA2
  have hlA2 := run_len Try.underlying31 aA2 zA4 cA2
  go_wp2_with (go_at_call 18; refine (num_any _ _).mono ?_; rintro e9 wn ⟨rfl, rfl⟩)
  go_loopw [13] (fun i wr => ∃ k : Nat, k ≤ zA4 ∧ i = .int .i64 k ∧ Hid (Below w5.heap.size w5 wr)) (fun i _ => zA4 - (intOf i).toNat)
  case atStart => exact ⟨0, Nat.zero_le _, rfl, Below.refl _ _⟩
  case round =>
    obtain ⟨kk, hk, rfl, HR⟩ := hrel
    by_cases hlt : kk < zA4
    · obtain ⟨x, hx⟩ := get_lt (l := L1) (k := kk) (by rw [← A2l.out]; exact hlt)
      obtain ⟨gb1, go1, gx1, gz1, hix1, p0, p1, p2, hA1, _⟩ := bks_atN (bksN.below A2.out HR.out) kk x hx
      obtain ⟨gb2, go2, gx2, gz2, hix2, q0, q1, q2, hA2, _⟩ := bks_atN (bksN.below A4.out HR.out) kk x hx
      have hkn : (kk : Int) < (zA4 : Int) := by omega
      have HSM : Hid (Calls Try.prog 19 #[.slice gx1 x.2.2.length gz1, .slice gx2 x.2.2.length gz2] wr.drew fun e w' => e = .returned (.bool (decide (x.2.2 = x.2.2))) ∧ ∃ q, w' = wr.drew.drewN q) := same_any 0 0 _ _ _ _ _ (hA1.below (Below.refl _ wr).drew) (hA2.below (Below.refl _ wr).drew)
      rw [decide_eq_true rfl] at HSM
      obtain ⟨xo, xi, xd⟩ := x
      simp only at p0 p1 p2 q0 q1 q2 HSM
      obtain ⟨xl, hxl⟩ : ∃ m, m = xd.length := ⟨_, rfl⟩
      rw [← hxl] at HSM p2 q2
      have HC : Hid (∀ V, Below wr.heap.size wr V → V.cell? ⟨gb1, go1, none⟩ = some (.int .i64 xo) ∧ V.cell? ⟨gb1, go1 + 1, none⟩ = some (.int .i64 xi) ∧ V.cell? ⟨gb1, go1 + 2, none⟩ = some (.slice gx1 xl gz1) ∧ V.cell? ⟨gb2, go2, none⟩ = some (.int .i64 xo) ∧ V.cell? ⟨gb2, go2 + 1, none⟩ = some (.int .i64 xi) ∧ V.cell? ⟨gb2, go2 + 2, none⟩ = some (.slice gx2 xl gz2)) := fun V hV => ⟨cell_below hV p0, cell_below hV p1, cell_below hV p2, cell_below hV q0, cell_below hV q1, cell_below hV q2⟩
      clear hx hA1 hA2 hxl p0 p1 p2 q0 q1 q2
      go_wp2
      refine AnyBut.begin (fun V => V.cell? ⟨gb1, go1, none⟩ = some (.int .i64 xo) ∧ V.cell? ⟨gb1, go1 + 1, none⟩ = some (.int .i64 xi) ∧ V.cell? ⟨gb1, go1 + 2, none⟩ = some (.slice gx1 xl gz1) ∧ V.cell? ⟨gb2, go2, none⟩ = some (.int .i64 xo) ∧ V.cell? ⟨gb2, go2 + 1, none⟩ = some (.int .i64 xi) ∧ V.cell? ⟨gb2, go2 + 2, none⟩ = some (.slice gx2 xl gz2)) 1000 (by kernel_rfl) ?_
      have hSS := HC.out wr.drew (Below.refl _ wr).drew
      refine tx 0 88 hSS ?_
      simp only [ua, ub, uc, ud]
      refine tx 1 89 hSS ?_
      simp only [ua, ub, uc, ud]
      refine tx 2 90 hSS ?_
      simp only [ua, ub, uc, ud]
      refine tx 3 91 hSS ?_
      simp only [ua, ub, uc, ud]
      refine tx 4 92 hSS ?_
      simp only [ua, ub, uc, ud]
      refine tx 5 93 hSS ?_
      simp only [ua, ub, uc, ud]
      refine tx 6 94 hSS ?_
      simp only [ua, ub, uc, ud]
      refine tx 7 95 hSS ?_
      simp only [ua, ub, uc, ud]
      refine tx 8 96 hSS ?_
      simp only [ua, ub, uc, ud]
      refine tx 9 97 hSS ?_
      simp only [ua, ub, uc, ud]
      refine tx 10 98 hSS ?_
      simp only [ua, ub, uc, ud]
      refine tx 11 99 hSS ?_
      simp only [ua, ub, uc, ud]
      refine tx 12 100 hSS ?_
      simp only [ua, ub, uc, ud]
      refine tx 13 101 hSS ?_
      simp only [ua, ub, uc, ud]
      refine tx 14 102 hSS ?_
      simp only [ua, ub, uc, ud]
      refine tx 15 103 hSS ?_
      simp only [ua, ub, uc, ud]
      refine tx 16 104 hSS ?_
      simp only [ua, ub, uc, ud]
      refine tx 17 105 hSS ?_
      simp only [ua, ub, uc, ud]
      refine tx 18 106 hSS ?_
      simp only [ua, ub, uc, ud]
      refine tx 19 107 hSS ?_
      simp only [ua, ub, uc, ud]
      refine tx 20 108 hSS ?_
      simp only [ua, ub, uc, ud]
      refine tx 21 109 hSS ?_
      simp only [ua, ub, uc, ud]
      refine tx 22 110 hSS ?_
      simp only [ua, ub, uc, ud]
      refine tx 23 111 hSS ?_
      simp only [ua, ub, uc, ud]
      refine tx 24 112 hSS ?_
      simp only [ua, ub, uc, ud]
      refine tx 25 113 hSS ?_
      simp only [ua, ub, uc, ud]
      refine tx 26 114 hSS ?_
      simp only [ua, ub, uc, ud]
      refine tx 27 115 hSS ?_
      simp only [ua, ub, uc, ud]
      refine tx 28 116 hSS ?_
      simp only [ua, ub, uc, ud]
      refine tx 29 117 hSS ?_
      simp only [ua, ub, uc, ud]
      refine tx 30 118 hSS ?_
      simp only [ua, ub, uc, ud]
      refine tx 31 119 hSS ?_
      simp only [ua, ub, uc, ud]
      refine tx 32 120 hSS ?_
      simp only [ua, ub, uc, ud]
      refine tx 33 121 hSS ?_
      simp only [ua, ub, uc, ud]
      refine tx 34 122 hSS ?_
      simp only [ua, ub, uc, ud]
      refine AnyBut.step (i := 35) (by kernel_rfl) rfl (fun K hK => ?_)
      go_simp
      refine Calls.mono HSM.out ?_
      rintro e9 w9 ⟨rfl, q9, hq9⟩
      dsimp only
      have hb9 : Below wr.heap.size wr w9 := by rw [hq9]; exact below_drewN (Below.refl _ wr).drew q9
      refine hK.out _ _ (HC.out w9 hb9) ?_
      clear hK hSS hq9
      have hSS := HC.out w9 hb9
      refine tx 36 124 hSS ?_
      simp only [ua, ub, uc, ud]
      refine tx 37 125 hSS ?_
      simp only [ua, ub, uc, ud]
      refine AnyBut.done (by kernel_rfl) ?_
      have HR2 : Hid (Below w5.heap.size w5 w9) := below_any HR.out hb9
      clear hSS hb9 HC HSM
      go_wp2
      go_roundw
      case rel => exact ⟨kk + 1, by omega, by go_num, HR2.out⟩
      case measure => simp [intOf]; omega
    · obtain rfl : kk = zA4 := by omega
      have HQ : Hid (post (.returned (.bool true)) wr) := HPo.out _ (below_any HB.out HR.out)
      go_wp2
      exact HQ.out
set_option maxRecDepth 100000 in
theorem lifted (os : Os) (started : os.Started) (H : Type) (enc : TypeId × Value → H) :
    ReturnsInHanded {} Try.checked os 6 .any (Rows.logAgainSpec.pre6 enc Try.prog Try.f6 Rows.logAgainRow.domain false) (Rows.logAgainSpec.post enc Try.prog Try.f6 false true false false) := by
  refine returnsInHanded_of_change_sized (C := Try.checked) own started (by kernel_rfl) Try.func6
    (ChangeSpec.witness6 (enc := enc) (C := Try.checked) false ⟨#[], #[.agg #[.slice none 0 0, .slice none 0 0, .slice none 0 0, .int .i64 0], .int .i64 0], []⟩ 8 (by kernel_rfl) (by kernel_rfl) (by kernel_rfl) (by kernel_rfl)) ?_
  intro W base args ds gs before hval0 hW hcnd hsz0 _
  have hval : ∀ (j : Nat) t v, Try.f6.params[j]? = some t → args[j]? = some v → Value.okWide Try.prog W .any base t v := hval0
  have hW' := hW
  obtain ⟨p, q, hA0, hV, rfl, hfz, hnd⟩ := hW
  have hA : DataW.TrodAll enc Try.prog W 0 (fun _ => true) true Try.f6.params.toList args.toList ds p := hA0
  have hsz : (DataW.weightsEach Try.prog (Try.f6.params.toList ++ Rows.logAgainSpec.plain.varTypes Try.prog) (ds ++ gs)).all (· ≤ reachBytes) = true := hsz0
  clear hsz0
  rw [Try.params6] at hA hval hsz
  obtain ⟨v0, vs0, d0, ds0, p0, q0, hargs, rfl, rfl, h0, r0⟩ := trodAll_cons hA
  obtain ⟨v1, vs1, d1, ds1, p1, q1, rfl, rfl, rfl, h1, r1⟩ := trodAll_cons r0
  obtain ⟨rfl, rfl, rfl⟩ := trodAll_nil r1
  obtain rfl : args = #[v0, v1] := by cases args; simp_all
  obtain ⟨rfl, rfl⟩ := trodVars_none hV
  obtain ⟨cs0, rfl, hc0⟩ := okWide_struct Try.underlying26 (hval 0 26 v0 rfl rfl)
  obtain ⟨us0, rfl⟩ := as_list cs0
  have k0 := h0
  have lt0 : ∀ x ∈ p0, x.block < W.heap.size := by obtain ⟨m, hm⟩ := k0; exact DataW.trod_lt m _ _ _ hm
  obtain ⟨m0, hm0⟩ := h0
  obtain ⟨s0, A0, F0'⟩ := stR.reads hm0
  have F0 := F0' fun n hn => by have := List.all_eq_true.1 hsz _ (DataW.weights_mem_each (j := 0) rfl rfl n hn); simpa using this
  obtain ⟨a1, rfl, rfl, rfl, w1⟩ := open_int Try.underlying3 (hval 1 3 v1 rfl rfl) h1
  have b1 := bounds_i64 w1
  clear hA0 hval0
  refine (walk 0 us0 s0 a1 W A0 (fits_st F0)).mono fun e W' ⟨he, bel⟩ => ?_
  subst he
  exact ⟨_, rfl, _, _, _, [], _, [], hW', trodAll_mk1 (shut_bool Try.underlying4 _), (trodAll_cons_mk (Below.trod laidOut (by kernel_rfl) (of_decide_eq_true (by kernel_rfl)) k0 bel lt0) (trodAll_cons_mk (shut_int Try.underlying3 w1) trodAll_mk0)), rfl, bel.frame _, fun h => by cases h⟩

theorem over : Rows.logAgainRow.holds Try.pinned (OpenSpec.ofChange Rows.logAgainSpec) :=
  OpenClaim.holds_of_wide 6 Try.f6 rfl rfl rfl rfl rfl rfl rfl ⟨rfl, rfl, rfl, rfl, rfl⟩ rfl rfl rfl rfl rfl (by kernel_rfl) Try.func6 (by kernel_rfl)
    (of_decide_eq_true (by kernel_rfl)) (by unfold Func.isWrapper; first | (rw [if_pos (by decide +kernel)]; kernel_rfl) | (rw [if_neg (by decide +kernel)]; exact ⟨rfl, rfl⟩))
    (fun os started H enc _ => lifted os started H enc)

end Go.Proofs.Ytkpckadicjdieaa.logAgain

namespace Go.Proofs.Ytkpckadicjdieaa
theorem logAgain_holds : Rows.LogAgainSaid := logAgain.over
#print axioms logAgain_holds
end Go.Proofs.Ytkpckadicjdieaa
