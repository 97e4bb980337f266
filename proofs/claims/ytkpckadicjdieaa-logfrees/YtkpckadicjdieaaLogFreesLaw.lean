/-
  LogFrees, proved: for every store and every number (as great as the form reads them): the call returns true, and changes nothing that was in memory. No condition of its own.
-/
import Derived.Test.YtkpckadicjdieaaLAll
import Derived.Test.YtkpckadicjdieaaLFree
import Derived.Test.YtkpckadicjdieaaLAlive
import Derived.Test.YtkpckadicjdieaaLOf
import Derived.Test.YtkpckadicjdieaaLTool
import Derived.Test.YtkpckadicjdieaaVMath
namespace Go.Proofs.Ytkpckadicjdieaa.logFrees
open Go.ChangeShapes Go.WideShapes Go.ChangeAt Go.RowKit
set_option linter.unusedVariables false

set_option maxRecDepth 100000 in
set_option maxHeartbeats 16000000 in
theorem walk (n0 : Nat) (us : List Value) (s : St) (k : Int) (w : World) (h : stR.lies n0 w us s) (hf : FitsL s) :
    Calls Try.prog 5 #[.agg us.toArray, .int .i64 k] w fun e w' => e = .returned (.bool true) ∧ Below w.heap.size w w' := by
  obtain ⟨post, hpost⟩ : ∃ post : Ending → World → Prop, post = fun e w' => e = .returned (.bool true) ∧ Below w.heap.size w w' := ⟨_, rfl⟩
  have HPo : Hid (∀ w', Below w.heap.size w w' → post (.returned (.bool true)) w') := fun w' h => by rw [hpost]; exact ⟨rfl, h⟩
  rw [← hpost]
  clear hpost
  obtain ⟨a0, n0, c0, b0, m0, d0, e0, k0, f0, q0, rfl⟩ := st_flatL h
  have HF : Hid (FitsL s) := hf
  obtain ⟨W, hW⟩ : ∃ W, W = w.alloc (.cells #[.slice a0 n0 c0, .slice b0 m0 d0, .slice e0 k0 f0, .int .i64 q0] 26) := ⟨_, rfl⟩
  have HB : Hid (Below w.heap.size w W) := by rw [hW]; exact (Below.refl _ _).alloc (Nat.le_refl _) _
  have A0 : Hid (Box W w.heap.size 26 #[.slice a0 n0 c0, .slice b0 m0 d0, .slice e0 k0 f0, .int .i64 q0] ∧ stR.lies 0 W [.slice a0 n0 c0, .slice b0 m0 d0, .slice e0 k0 f0, .int .i64 q0] s) := ⟨by rw [hW]; exact Box.new _ _ _, stR.below (stR.weaken h (Nat.zero_le _)) HB.out⟩
  obtain ⟨ue, hue⟩ : ∃ z, z = uE s k := ⟨_, rfl⟩
  obtain ⟨fe, hfe⟩ : ∃ z, z = fE s k := ⟨_, rfl⟩
  obtain ⟨ok, hok⟩ : ∃ z, z = okE s := ⟨_, rfl⟩
  have HE : Hid (ue = uE s k ∧ fe = fE s k ∧ ok = okE s) := ⟨hue, hfe, hok⟩
  clear hue hfe hok
  clear h hf
  go_enter Try.func5, Try.ntmps5
  go_upto_region 1 with fail
  rw [← hW]
  clear hW
  have HC := alive_any W
  go_wp2_with (go_at_call 18; refine (num_any _ _).mono ?_; rintro e9 wn ⟨rfl, rfl⟩)
  refine HC.mono ?_
  rintro e9 w1 ⟨rfl, hb9⟩
  replace A0 : Hid (Box w1 w.heap.size 26 #[.slice a0 n0 c0, .slice b0 m0 d0, .slice e0 k0 f0, .int .i64 q0] ∧ stR.lies 0 w1 [.slice a0 n0 c0, .slice b0 m0 d0, .slice e0 k0 f0, .int .i64 q0] s) := ⟨A0.out.1.below hb9 A0.out.1.lt, stR.below A0.out.2 hb9⟩
  replace HB : Hid (Below w.heap.size w w1) := below_any HB.out hb9
  clear HC hb9
  have HC := ofL_any 0 [.slice a0 n0 c0, .slice b0 m0 d0, .slice e0 k0 f0, .int .i64 q0] s w1 A0.out.2 HF.out
  obtain ⟨A0c0, A0c1, A0c2, A0c3, -⟩ := A0.out.1.four
  go_wp2_with fail
  clear A0c0 A0c1 A0c2 A0c3
  refine HC.mono ?_
  rintro e9 w2 ⟨⟨us9, rfl, ho9⟩, hb9⟩
  obtain ⟨a1, n1, c1, b1, m1, d1, e1, k1, f1, q1, rfl⟩ := st_flat ho9
  replace A0 : Hid (Box w2 w.heap.size 26 #[.slice a0 n0 c0, .slice b0 m0 d0, .slice e0 k0 f0, .int .i64 q0] ∧ stR.lies 0 w2 [.slice a0 n0 c0, .slice b0 m0 d0, .slice e0 k0 f0, .int .i64 q0] s) := ⟨A0.out.1.below hb9 A0.out.1.lt, stR.below A0.out.2 hb9⟩
  replace HB : Hid (Below w.heap.size w w2) := below_any HB.out hb9
  obtain ⟨X2, hX2⟩ : ∃ X, X = w2.alloc (.cells #[.slice a1 n1 c1, .slice b1 m1 d1, .slice e1 k1 f1, .int .i64 q1] 33) := ⟨_, rfl⟩
  have hbX : Below w2.heap.size w2 X2 := by rw [hX2]; exact (Below.refl _ _).alloc (Nat.le_refl _) _
  have A1 : Hid (Box X2 w2.heap.size 33 #[.slice a1 n1 c1, .slice b1 m1 d1, .slice e1 k1 f1, .int .i64 q1] ∧ stN.lies 0 X2 [.slice a1 n1 c1, .slice b1 m1 d1, .slice e1 k1 f1, .int .i64 q1] s) := ⟨by rw [hX2]; exact Box.new _ _ _, stN.below (stN.weaken (stN.olies ho9) (Nat.zero_le _)) hbX⟩
  replace A0 : Hid (Box X2 w.heap.size 26 #[.slice a0 n0 c0, .slice b0 m0 d0, .slice e0 k0 f0, .int .i64 q0] ∧ stR.lies 0 X2 [.slice a0 n0 c0, .slice b0 m0 d0, .slice e0 k0 f0, .int .i64 q0] s) := ⟨A0.out.1.below hbX A0.out.1.lt, stR.below A0.out.2 hbX⟩
  replace HB : Hid (Below w.heap.size w X2) := below_any HB.out hbX
  clear HC ho9 hb9 hbX
  go_upto_region 4 with fail
  rw [← hX2]
  clear hX2
  have HC := liveL_any 0 [.slice a1 n1 c1, .slice b1 m1 d1, .slice e1 k1 f1, .int .i64 q1] s k X2 A1.out.2
  rw [← HE.out.1] at HC
  obtain ⟨A1c0, A1c1, A1c2, A1c3, -⟩ := A1.out.1.four
  go_wp2_with fail
  clear A1c0 A1c1 A1c2 A1c3
  refine HC.mono ?_
  rintro e9 w3 ⟨⟨v9, rfl, ho9⟩, hb9⟩
  obtain ⟨aA2, cA2, _, hv9, -⟩ := Shape.list_own (S := bkN) (ht := Try.underlying31) (hc := cells31) ho9
  obtain rfl : v9 = _ := (List.cons.inj hv9).1
  obtain ⟨zA2, hz9⟩ : ∃ z, z = ((lL s k)).length := ⟨_, rfl⟩
  rw [← hz9] at ho9 ⊢
  have A2 : Hid (bksN.lies 0 w3 [.slice aA2 zA2 cA2] (lL s k)) := bksN.weaken (bksN.olies ho9) (Nat.zero_le _)
  have A2l : Hid (zA2 = ((lL s k)).length) := hz9
  replace A0 : Hid (Box w3 w.heap.size 26 #[.slice a0 n0 c0, .slice b0 m0 d0, .slice e0 k0 f0, .int .i64 q0] ∧ stR.lies 0 w3 [.slice a0 n0 c0, .slice b0 m0 d0, .slice e0 k0 f0, .int .i64 q0] s) := ⟨A0.out.1.below hb9 A0.out.1.lt, stR.below A0.out.2 hb9⟩
  replace A1 : Hid (Box w3 w2.heap.size 33 #[.slice a1 n1 c1, .slice b1 m1 d1, .slice e1 k1 f1, .int .i64 q1] ∧ stN.lies 0 w3 [.slice a1 n1 c1, .slice b1 m1 d1, .slice e1 k1 f1, .int .i64 q1] s) := ⟨A1.out.1.below hb9 A1.out.1.lt, stN.below A1.out.2 hb9⟩
  replace HB : Hid (Below w.heap.size w w3) := below_any HB.out hb9
  clear HC ho9 hb9 hv9 hz9
  have HC := free_any 0 [.slice a1 n1 c1, .slice b1 m1 d1, .slice e1 k1 f1, .int .i64 q1] s k w3 A1.out.2
  rw [← HE.out.2.1] at HC
  obtain ⟨A1c0, A1c1, A1c2, A1c3, -⟩ := A1.out.1.four
  go_wp2_with fail
  clear A1c0 A1c1 A1c2 A1c3
  refine HC.mono ?_
  rintro e9 w4 ⟨⟨us9, rfl, ho9⟩, hb9⟩
  obtain ⟨a3, n3, c3, b3, m3, d3, e3, k3, f3, q3, rfl⟩ := st_flat ho9
  replace A0 : Hid (Box w4 w.heap.size 26 #[.slice a0 n0 c0, .slice b0 m0 d0, .slice e0 k0 f0, .int .i64 q0] ∧ stR.lies 0 w4 [.slice a0 n0 c0, .slice b0 m0 d0, .slice e0 k0 f0, .int .i64 q0] s) := ⟨A0.out.1.below hb9 A0.out.1.lt, stR.below A0.out.2 hb9⟩
  replace A1 : Hid (Box w4 w2.heap.size 33 #[.slice a1 n1 c1, .slice b1 m1 d1, .slice e1 k1 f1, .int .i64 q1] ∧ stN.lies 0 w4 [.slice a1 n1 c1, .slice b1 m1 d1, .slice e1 k1 f1, .int .i64 q1] s) := ⟨A1.out.1.below hb9 A1.out.1.lt, stN.below A1.out.2 hb9⟩
  replace A2 : Hid (bksN.lies 0 w4 [(.slice aA2 zA2 cA2)] (lL s k)) := bksN.below A2.out hb9
  replace HB : Hid (Below w.heap.size w w4) := below_any HB.out hb9
  obtain ⟨X4, hX4⟩ : ∃ X, X = w4.alloc (.cells #[.slice a3 n3 c3, .slice b3 m3 d3, .slice e3 k3 f3, .int .i64 q3] 33) := ⟨_, rfl⟩
  have hbX : Below w4.heap.size w4 X4 := by rw [hX4]; exact (Below.refl _ _).alloc (Nat.le_refl _) _
  have A3 : Hid (Box X4 w4.heap.size 33 #[.slice a3 n3 c3, .slice b3 m3 d3, .slice e3 k3 f3, .int .i64 q3] ∧ stN.lies 0 X4 [.slice a3 n3 c3, .slice b3 m3 d3, .slice e3 k3 f3, .int .i64 q3] (fS s k)) := ⟨by rw [hX4]; exact Box.new _ _ _, stN.below (stN.weaken (stN.olies ho9) (Nat.zero_le _)) hbX⟩
  replace A0 : Hid (Box X4 w.heap.size 26 #[.slice a0 n0 c0, .slice b0 m0 d0, .slice e0 k0 f0, .int .i64 q0] ∧ stR.lies 0 X4 [.slice a0 n0 c0, .slice b0 m0 d0, .slice e0 k0 f0, .int .i64 q0] s) := ⟨A0.out.1.below hbX A0.out.1.lt, stR.below A0.out.2 hbX⟩
  replace A1 : Hid (Box X4 w2.heap.size 33 #[.slice a1 n1 c1, .slice b1 m1 d1, .slice e1 k1 f1, .int .i64 q1] ∧ stN.lies 0 X4 [.slice a1 n1 c1, .slice b1 m1 d1, .slice e1 k1 f1, .int .i64 q1] s) := ⟨A1.out.1.below hbX A1.out.1.lt, stN.below A1.out.2 hbX⟩
  replace A2 : Hid (bksN.lies 0 X4 [(.slice aA2 zA2 cA2)] (lL s k)) := bksN.below A2.out hbX
  replace HB : Hid (Below w.heap.size w X4) := below_any HB.out hbX
  clear HC ho9 hb9 hbX
  go_upto_region 6 with fail
  rw [← hX4]
  clear hX4
  have HC := all_any 0 [.slice a1 n1 c1, .slice b1 m1 d1, .slice e1 k1 f1, .int .i64 q1] s X4 A1.out.2
  rw [← HE.out.2.2] at HC
  obtain ⟨A1c0, A1c1, A1c2, A1c3, -⟩ := A1.out.1.four
  go_wp2_with fail
  clear A1c0 A1c1 A1c2 A1c3
  refine HC.mono ?_
  rintro e9 w5 ⟨⟨v9, L1, rfl, ho9, hA9, hN9⟩, hb9⟩
  have HL1 : Hid ((Ok s → AllOf s L1) ∧ (¬ Ok s → L1 = [])) := ⟨hA9, hN9⟩
  obtain ⟨aA4, cA4, _, hv9, -⟩ := Shape.list_own (S := bkN) (ht := Try.underlying31) (hc := cells31) ho9
  obtain rfl : v9 = _ := (List.cons.inj hv9).1
  obtain ⟨zA4, hz9⟩ : ∃ z, z = (L1).length := ⟨_, rfl⟩
  rw [← hz9] at ho9 ⊢
  have A4 : Hid (bksN.lies 0 w5 [.slice aA4 zA4 cA4] L1) := bksN.weaken (bksN.olies ho9) (Nat.zero_le _)
  have A4l : Hid (zA4 = (L1).length) := hz9
  replace A0 : Hid (Box w5 w.heap.size 26 #[.slice a0 n0 c0, .slice b0 m0 d0, .slice e0 k0 f0, .int .i64 q0] ∧ stR.lies 0 w5 [.slice a0 n0 c0, .slice b0 m0 d0, .slice e0 k0 f0, .int .i64 q0] s) := ⟨A0.out.1.below hb9 A0.out.1.lt, stR.below A0.out.2 hb9⟩
  replace A1 : Hid (Box w5 w2.heap.size 33 #[.slice a1 n1 c1, .slice b1 m1 d1, .slice e1 k1 f1, .int .i64 q1] ∧ stN.lies 0 w5 [.slice a1 n1 c1, .slice b1 m1 d1, .slice e1 k1 f1, .int .i64 q1] s) := ⟨A1.out.1.below hb9 A1.out.1.lt, stN.below A1.out.2 hb9⟩
  replace A2 : Hid (bksN.lies 0 w5 [(.slice aA2 zA2 cA2)] (lL s k)) := bksN.below A2.out hb9
  replace A3 : Hid (Box w5 w4.heap.size 33 #[.slice a3 n3 c3, .slice b3 m3 d3, .slice e3 k3 f3, .int .i64 q3] ∧ stN.lies 0 w5 [.slice a3 n3 c3, .slice b3 m3 d3, .slice e3 k3 f3, .int .i64 q3] (fS s k)) := ⟨A3.out.1.below hb9 A3.out.1.lt, stN.below A3.out.2 hb9⟩
  replace HB : Hid (Below w.heap.size w w5) := below_any HB.out hb9
  clear HC ho9 hb9 hv9 hz9 hA9 hN9
  have hbA2 : zA2 ≤ 9223372036854775807 := by
    obtain ⟨_, _, e8, _, h8, _⟩ := Shape.list_len (S := bkN) (ht := Try.underlying31) (hc := cells31) A2.out
    unfold maxLen at h8
    have := A2l.out
    omega
  have hlA2 := run_len Try.underlying31 aA2 zA2 cA2
  have hbA4 : zA4 ≤ 9223372036854775807 := by
    obtain ⟨_, _, e8, _, h8, _⟩ := Shape.list_len (S := bkN) (ht := Try.underlying31) (hc := cells31) A4.out
    unfold maxLen at h8
    have := A4l.out
    omega
  have hlA4 := run_len Try.underlying31 aA4 zA4 cA4
  by_cases hu : ue = 0
  case neg =>
    have hz : lL s k = [] := by unfold lL; rw [if_neg (by rw [← HE.out.1]; exact hu)]
    obtain rfl : zA2 = 0 := by rw [A2l.out, hz]; rfl
    have hfe : ¬ fe = 0 := fun c => by
      have := (fE_zero (HE.out.2.1.symm.trans c)).1
      exact hu (HE.out.1.trans this)
    have hfb : (fe != 0) = true := by simpa using hfe
    have HQ : Hid (post (.returned (.bool true)) w5) := HPo.out _ HB.out
    clear hz hbA2 hbA4
    go_wp2_with (go_at_call 18; refine (num_any _ _).mono ?_; rintro e9 wn ⟨rfl, rfl⟩)
    exact HQ.out
  subst hu
  have hUE : uE s k = 0 := HE.out.1.symm
  have HOK : Hid (Ok s ∧ uE s k = 0) := ⟨(uE_zero hUE).1, hUE⟩
  obtain rfl : ok = 0 := by rw [HE.out.2.2]; exact okE_ok HOK.out.1
  obtain ⟨bb, hb1, hb2⟩ : ∃ bb : Bool, (fe == 0) = bb ∧ ((zA2 : Int) == 0) = bb := by
    refine ⟨_, rfl, ?_⟩
    rw [Bool.eq_iff_iff, beq_iff_eq, beq_iff_eq, HE.out.2.1, A2l.out]
    unfold fE
    rw [if_pos hUE]
    split <;> omega
  have HFZ : Hid (zA2 = 0 → fe = 0) := fun h => by
    have h1 : (fe == 0) = true := by rw [hb1, ← hb2, h]; rfl
    exact beq_iff_eq.1 h1
  clear hUE
  go_wp2_with (go_at_call 18; refine (num_any _ _).mono ?_; rintro e9 wn ⟨rfl, rfl⟩)
  clear hb1 hb2
  go_loopw [12] (fun i wr => ∃ j : Nat, j ≤ zA2 ∧ i = .int .i64 j ∧ Hid (Below w5.heap.size w5 wr)) (fun i _ => zA2 - (intOf i).toNat)
  case atStart => exact ⟨0, Nat.zero_le _, rfl, Below.refl _ _⟩
  case round =>
    obtain ⟨j, hj, rfl, HR⟩ := hrel
    by_cases hlt : j < zA2
    · obtain ⟨x, hx⟩ := get_lt (l := lL s k) (k := j) (by rw [← A2l.out]; exact hlt)
      obtain ⟨gb1, go1, gx1, gz1, hix1, p0, p1, p2, hA1, i1, i2, _⟩ := bks_atN (bksN.below A2.out HR.out) j x hx
      have hg := live_got HOK.out.2 (List.mem_of_getElem? hx)
      have hjn : (j : Int) < (zA2 : Int) := by omega
      have HGT : Hid (Calls Try.prog 13 #[.agg #[.slice a1 n1 c1, .slice b1 m1 d1, .slice e1 k1 f1, .int .i64 q1], .int .i64 x.1, .int .i64 x.2.1] wr.drew fun e w' => (∃ v', e = .returned (.tuple #[v', .bool (!decide (x.2.2.length = 0)), .int .i64 0]) ∧ Own1 wr.drew.heap.size w' v' x.2.2) ∧ Below wr.drew.heap.size wr.drew w') := by
        have := get_any 0 [.slice a1 n1 c1, .slice b1 m1 d1, .slice e1 k1 f1, .int .i64 q1] s x.1 x.2.1 wr.drew (stN.below (stN.below A1.out.2 HR.out) (Below.refl _ wr).drew) i1 i2
        rw [hg, okE_ok HOK.out.1] at this
        exact this
      have hxs := hA1.small
      have HA1 : Hid (∀ V, Below wr.heap.size wr V → Arg 0 V (.slice gx1 x.2.2.length gz1) x.2.2) := fun V hV => hA1.below hV
      obtain ⟨xo, xi, xd⟩ := x
      simp only at p0 p1 p2 HGT HA1 hxs
      obtain ⟨xl, hxl⟩ : ∃ m, m = xd.length := ⟨_, rfl⟩
      have HXL : Hid (xl = xd.length) := hxl
      rw [← hxl] at HGT p2 HA1 hxs
      have HC : Hid (∀ V, Below wr.heap.size wr V → V.cell? ⟨w2.heap.size, 0, none⟩ = some (.slice a1 n1 c1) ∧ V.cell? ⟨w2.heap.size, 1, none⟩ = some (.slice b1 m1 d1) ∧ V.cell? ⟨w2.heap.size, 2, none⟩ = some (.slice e1 k1 f1) ∧ V.cell? ⟨w2.heap.size, 3, none⟩ = some (.int .i64 q1) ∧ V.cell? ⟨gb1, go1, none⟩ = some (.int .i64 xo) ∧ V.cell? ⟨gb1, go1 + 1, none⟩ = some (.int .i64 xi) ∧ V.cell? ⟨gb1, go1 + 2, none⟩ = some (.slice gx1 xl gz1)) := fun V hV => by
        have hB := A1.out.1.below HR.out A1.out.1.lt
        have h4 := (hB.below hV hB.lt).four
        exact ⟨h4.1, h4.2.1, h4.2.2.1, h4.2.2.2.1, cell_below hV p0, cell_below hV p1, cell_below hV p2⟩
      clear hx hA1 hxl hg i1 i2 p0 p1 p2
      go_wp2
      by_cases h0 : xl = 0
      · have e0 : (!decide (xl = 0)) = false := by rw [h0]; rfl
        rw [e0] at HGT
        subst h0
        clear e0
        refine AnyBut.begin (fun V => V.cell? ⟨w2.heap.size, 0, none⟩ = some (.slice a1 n1 c1) ∧ V.cell? ⟨w2.heap.size, 1, none⟩ = some (.slice b1 m1 d1) ∧ V.cell? ⟨w2.heap.size, 2, none⟩ = some (.slice e1 k1 f1) ∧ V.cell? ⟨w2.heap.size, 3, none⟩ = some (.int .i64 q1) ∧ V.cell? ⟨gb1, go1, none⟩ = some (.int .i64 xo) ∧ V.cell? ⟨gb1, go1 + 1, none⟩ = some (.int .i64 xi) ∧ V.cell? ⟨gb1, go1 + 2, none⟩ = some (.slice gx1 0 gz1)) 1000 (by kernel_rfl) ?_
        have hSS := HC.out wr.drew (Below.refl _ wr).drew
        refine tx 0 70 hSS ?_
        simp only [ua, ub, uc, ud]
        refine tx 1 71 hSS ?_
        simp only [ua, ub, uc, ud]
        refine tx 2 72 hSS ?_
        simp only [ua, ub, uc, ud]
        refine tx 3 73 hSS ?_
        simp only [ua, ub, uc, ud]
        refine tx 4 74 hSS ?_
        simp only [ua, ub, uc, ud]
        refine tx 5 75 hSS ?_
        simp only [ua, ub, uc, ud]
        refine tx 6 76 hSS ?_
        simp only [ua, ub, uc, ud]
        refine tx 7 77 hSS ?_
        simp only [ua, ub, uc, ud]
        refine tx 8 78 hSS ?_
        simp only [ua, ub, uc, ud]
        refine tx 9 79 hSS ?_
        simp only [ua, ub, uc, ud]
        refine tx 10 80 hSS ?_
        simp only [ua, ub, uc, ud]
        refine AnyBut.step (i := 11) (by kernel_rfl) rfl (fun K hK => ?_)
        go_simp
        refine Calls.mono HGT.out ?_
        rintro e9 w9 ⟨⟨v9, rfl, ho9⟩, hb9⟩
        dsimp only
        replace hb9 : Below wr.heap.size wr w9 := ((Below.refl wr.heap.size wr).drew).trans (hb9.mono (Nat.le_refl _))
        refine hK.out _ _ (HC.out w9 hb9) ?_
        clear hK hSS
        have hSS := HC.out w9 hb9
        obtain ⟨a9, c9, rfl⟩ := ho9.shape
        rw [← HXL.out] at ho9 ⊢
        refine tx 12 69 hSS ?_
        simp only [ua, ub, uc, ud]
        refine tx 13 82 hSS ?_
        simp only [ua, ub, uc, ud]
        refine tx 14 83 hSS ?_
        simp only [ua, ub, uc, ud]
        refine tx 15 84 hSS ?_
        simp only [ua, ub, uc, ud]
        refine tx 16 13 hSS ?_
        simp only [ua, ub, uc, ud]
        refine tx 17 14 hSS ?_
        simp only [ua, ub, uc, ud]
        refine tx 18 15 hSS ?_
        simp only [ua, ub, uc, ud]
        refine AnyBut.done (by kernel_rfl) ?_
        have HCS := same_any 0 0 _ _ xd xd w9 (ho9.arg.weaken (Nat.zero_le _)) (HA1.out w9 hb9)
        rw [decide_eq_true rfl] at HCS
        have HR2 : Hid (Below w5.heap.size w5 w9) := below_any HR.out hb9
        obtain ⟨-, -, -, -, p0, p1, p2⟩ := hSS
        have hl9 := run_len Try.underlying27 gx1 0 gz1
        clear ho9 hb9 HC HGT HA1
        go_wp2_with (go_at_call 18; refine (num_any _ _).mono ?_; rintro e9 wn ⟨rfl, rfl⟩)
        clear p0 p1 p2
        refine HCS.mono ?_
        rintro e9 w10 ⟨rfl, q9, hq9⟩
        replace HR2 : Hid (Below w5.heap.size w5 w10) := by rw [hq9]; exact below_drewN HR2.out q9
        clear HCS hq9
        go_wp2
        go_roundw
        case rel => exact ⟨j + 1, by omega, by go_num, HR2.out⟩
        case measure => simp [intOf]; omega
      · have e0 : (!decide (xl = 0)) = true := by simp [h0]
        have h1 : (0 : Int) < (xl : Int) := by omega
        rw [e0] at HGT
        clear e0
        refine AnyBut.begin (fun V => V.cell? ⟨w2.heap.size, 0, none⟩ = some (.slice a1 n1 c1) ∧ V.cell? ⟨w2.heap.size, 1, none⟩ = some (.slice b1 m1 d1) ∧ V.cell? ⟨w2.heap.size, 2, none⟩ = some (.slice e1 k1 f1) ∧ V.cell? ⟨w2.heap.size, 3, none⟩ = some (.int .i64 q1) ∧ V.cell? ⟨gb1, go1, none⟩ = some (.int .i64 xo) ∧ V.cell? ⟨gb1, go1 + 1, none⟩ = some (.int .i64 xi) ∧ V.cell? ⟨gb1, go1 + 2, none⟩ = some (.slice gx1 xl gz1)) 1000 (by kernel_rfl) ?_
        have hSS := HC.out wr.drew (Below.refl _ wr).drew
        refine tx 0 70 hSS ?_
        simp only [ua, ub, uc, ud]
        refine tx 1 71 hSS ?_
        simp only [ua, ub, uc, ud]
        refine tx 2 72 hSS ?_
        simp only [ua, ub, uc, ud]
        refine tx 3 73 hSS ?_
        simp only [ua, ub, uc, ud]
        refine tx 4 74 hSS ?_
        simp only [ua, ub, uc, ud]
        refine tx 5 75 hSS ?_
        simp only [ua, ub, uc, ud]
        refine tx 6 76 hSS ?_
        simp only [ua, ub, uc, ud]
        refine tx 7 77 hSS ?_
        simp only [ua, ub, uc, ud]
        refine tx 8 78 hSS ?_
        simp only [ua, ub, uc, ud]
        refine tx 9 79 hSS ?_
        simp only [ua, ub, uc, ud]
        refine tx 10 80 hSS ?_
        simp only [ua, ub, uc, ud]
        refine AnyBut.step (i := 11) (by kernel_rfl) rfl (fun K hK => ?_)
        go_simp
        refine Calls.mono HGT.out ?_
        rintro e9 w9 ⟨⟨v9, rfl, ho9⟩, hb9⟩
        dsimp only
        replace hb9 : Below wr.heap.size wr w9 := ((Below.refl wr.heap.size wr).drew).trans (hb9.mono (Nat.le_refl _))
        refine hK.out _ _ (HC.out w9 hb9) ?_
        clear hK hSS
        have hSS := HC.out w9 hb9
        obtain ⟨a9, c9, rfl⟩ := ho9.shape
        rw [← HXL] at ho9 ⊢
        refine tx 12 69 hSS ?_
        simp only [ua, ub, uc, ud]
        refine tx 13 82 hSS ?_
        simp only [ua, ub, uc, ud]
        refine tx 14 83 hSS ?_
        simp only [ua, ub, uc, ud]
        refine tx 15 84 hSS ?_
        simp only [ua, ub, uc, ud]
        refine tx 16 13 hSS ?_
        simp only [ua, ub, uc, ud]
        refine tx 17 14 hSS ?_
        simp only [ua, ub, uc, ud]
        refine tx 18 15 hSS ?_
        simp only [ua, ub, uc, ud]
        refine AnyBut.done (by kernel_rfl) ?_
        have HCS := same_any 0 0 _ _ xd xd w9 (ho9.arg.weaken (Nat.zero_le _)) (HA1.out w9 hb9)
        rw [decide_eq_true rfl] at HCS
        have HR2 : Hid (Below w5.heap.size w5 w9) := below_any HR.out hb9
        obtain ⟨-, -, -, -, p0, p1, p2⟩ := hSS
        have hl9 := run_len Try.underlying27 gx1 xl gz1
        clear ho9 hb9 HC HGT HA1
        go_wp2_with (go_at_call 18; refine (num_any _ _).mono ?_; rintro e9 wn ⟨rfl, rfl⟩)
        clear p0 p1 p2
        refine HCS.mono ?_
        rintro e9 w10 ⟨rfl, q9, hq9⟩
        replace HR2 : Hid (Below w5.heap.size w5 w10) := by rw [hq9]; exact below_drewN HR2.out q9
        clear HCS hq9
        go_wp2
        go_roundw
        case rel => exact ⟨j + 1, by omega, by go_num, HR2.out⟩
        case measure => simp [intOf]; omega
    · obtain rfl : zA2 = j := by omega
      replace A0 : Hid (Box wr w.heap.size 26 #[.slice a0 n0 c0, .slice b0 m0 d0, .slice e0 k0 f0, .int .i64 q0] ∧ stR.lies 0 wr [.slice a0 n0 c0, .slice b0 m0 d0, .slice e0 k0 f0, .int .i64 q0] s) := ⟨A0.out.1.below HR.out A0.out.1.lt, stR.below A0.out.2 HR.out⟩
      replace A1 : Hid (Box wr w2.heap.size 33 #[.slice a1 n1 c1, .slice b1 m1 d1, .slice e1 k1 f1, .int .i64 q1] ∧ stN.lies 0 wr [.slice a1 n1 c1, .slice b1 m1 d1, .slice e1 k1 f1, .int .i64 q1] s) := ⟨A1.out.1.below HR.out A1.out.1.lt, stN.below A1.out.2 HR.out⟩
      replace A2 : Hid (bksN.lies 0 wr [(.slice aA2 zA2 cA2)] (lL s k)) := bksN.below A2.out HR.out
      replace A3 : Hid (Box wr w4.heap.size 33 #[.slice a3 n3 c3, .slice b3 m3 d3, .slice e3 k3 f3, .int .i64 q3] ∧ stN.lies 0 wr [.slice a3 n3 c3, .slice b3 m3 d3, .slice e3 k3 f3, .int .i64 q3] (fS s k)) := ⟨A3.out.1.below HR.out A3.out.1.lt, stN.below A3.out.2 HR.out⟩
      replace A4 : Hid (bksN.lies 0 wr [(.slice aA4 zA4 cA4)] L1) := bksN.below A4.out HR.out
      replace HB : Hid (Below w.heap.size w wr) := below_any HB.out HR.out
      clear HR hj hlt
      by_cases hz : 0 < zA2
      · have hz1 : (0 : Int) < (zA2 : Int) := by omega
        have HQ : Hid (post (.returned (.bool true)) wr) := HPo.out _ HB.out
        go_wp2
        exact HQ.out
      obtain rfl : zA2 = 0 := by omega
      obtain rfl : fe = 0 := HFZ.out rfl
      have hfE : fE s k = 0 := HE.out.2.1.symm
      have HOK2 : Hid (Ok (fS s k) ∧ fE s k = 0) := ⟨fS_ok hfE, hfE⟩
      clear hfE hz A2 A2l hbA2
      have HC := all_any 0 [.slice a3 n3 c3, .slice b3 m3 d3, .slice e3 k3 f3, .int .i64 q3] (fS s k) wr A3.out.2
      rw [okE_ok HOK2.out.1] at HC
      obtain ⟨A3c0, A3c1, A3c2, A3c3, -⟩ := A3.out.1.four
      go_wp2_with fail
      clear A3c0 A3c1 A3c2 A3c3
      refine HC.mono ?_
      rintro e9 w26 ⟨⟨v9, L2, rfl, ho9, hA9, hN9⟩, hb9⟩
      have HL2 : Hid ((Ok (fS s k) → AllOf (fS s k) L2) ∧ (¬ Ok (fS s k) → L2 = [])) := ⟨hA9, hN9⟩
      obtain ⟨aA5, cA5, _, hv9, -⟩ := Shape.list_own (S := bkN) (ht := Try.underlying31) (hc := cells31) ho9
      obtain rfl : v9 = _ := (List.cons.inj hv9).1
      obtain ⟨zA5, hz9⟩ : ∃ z, z = (L2).length := ⟨_, rfl⟩
      rw [← hz9] at ho9 ⊢
      have A5 : Hid (bksN.lies 0 w26 [.slice aA5 zA5 cA5] L2) := bksN.weaken (bksN.olies ho9) (Nat.zero_le _)
      have A5l : Hid (zA5 = (L2).length) := hz9
      replace A0 : Hid (Box w26 w.heap.size 26 #[.slice a0 n0 c0, .slice b0 m0 d0, .slice e0 k0 f0, .int .i64 q0] ∧ stR.lies 0 w26 [.slice a0 n0 c0, .slice b0 m0 d0, .slice e0 k0 f0, .int .i64 q0] s) := ⟨A0.out.1.below hb9 A0.out.1.lt, stR.below A0.out.2 hb9⟩
      replace A1 : Hid (Box w26 w2.heap.size 33 #[.slice a1 n1 c1, .slice b1 m1 d1, .slice e1 k1 f1, .int .i64 q1] ∧ stN.lies 0 w26 [.slice a1 n1 c1, .slice b1 m1 d1, .slice e1 k1 f1, .int .i64 q1] s) := ⟨A1.out.1.below hb9 A1.out.1.lt, stN.below A1.out.2 hb9⟩
      replace A3 : Hid (Box w26 w4.heap.size 33 #[.slice a3 n3 c3, .slice b3 m3 d3, .slice e3 k3 f3, .int .i64 q3] ∧ stN.lies 0 w26 [.slice a3 n3 c3, .slice b3 m3 d3, .slice e3 k3 f3, .int .i64 q3] (fS s k)) := ⟨A3.out.1.below hb9 A3.out.1.lt, stN.below A3.out.2 hb9⟩
      replace A4 : Hid (bksN.lies 0 w26 [(.slice aA4 zA4 cA4)] L1) := bksN.below A4.out hb9
      replace HB : Hid (Below w.heap.size w w26) := below_any HB.out hb9
      clear HC ho9 hb9 hv9 hz9 hA9 hN9
      obtain rfl : L1 = L2 := ((HL1.out.1 HOK.out.1).same (fun o i => fS_last HOK2.out.2 o i)).eq (HL2.out.1 HOK2.out.1)
      have hbA5 : zA5 ≤ 9223372036854775807 := by
        obtain ⟨_, _, e8, _, h8, _⟩ := Shape.list_len (S := bkN) (ht := Try.underlying31) (hc := cells31) A5.out
        unfold maxLen at h8
        have := A5l.out
        omega
      have hlA5 := run_len Try.underlying31 aA5 zA5 cA5
      clear A0 A1 A3 HOK HOK2 HL1 HL2 HFZ HE
      obtain rfl : zA5 = zA4 := by rw [A4l.out, A5l.out]
      clear hbA4 hlA4
      have hlA4 := run_len Try.underlying31 aA4 zA5 cA4
      go_wp2_with (go_at_call 18; refine (num_any _ _).mono ?_; rintro e9 wn ⟨rfl, rfl⟩)
      go_loopw [18] (fun i wr => ∃ k : Nat, k ≤ zA5 ∧ i = .int .i64 k ∧ Hid (Below w26.heap.size w26 wr)) (fun i _ => zA5 - (intOf i).toNat)
      case atStart => exact ⟨0, Nat.zero_le _, rfl, Below.refl _ _⟩
      case round =>
        obtain ⟨kk, hk, rfl, HR⟩ := hrel
        by_cases hlt : kk < zA5
        · obtain ⟨x, hx⟩ := get_lt (l := L1) (k := kk) (by rw [← A4l.out]; exact hlt)
          obtain ⟨gb1, go1, gx1, gz1, hix1, p0, p1, p2, hA1, _⟩ := bks_atN (bksN.below A4.out HR.out) kk x hx
          obtain ⟨gb2, go2, gx2, gz2, hix2, q0, q1, q2, hA2, _⟩ := bks_atN (bksN.below A5.out HR.out) kk x hx
          have hkn : (kk : Int) < (zA5 : Int) := by omega
          have HSM : Hid (Calls Try.prog 19 #[.slice gx1 x.2.2.length gz1, .slice gx2 x.2.2.length gz2] wr.drew fun e w' => e = .returned (.bool (decide (x.2.2 = x.2.2))) ∧ ∃ q, w' = wr.drew.drewN q) := same_any 0 0 _ _ _ _ _ (hA1.below (Below.refl _ wr).drew) (hA2.below (Below.refl _ wr).drew)
          rw [decide_eq_true rfl] at HSM
          obtain ⟨xo, xi, xd⟩ := x
          simp only at p0 p1 p2 q0 q1 q2 HSM
          obtain ⟨xl, hxl⟩ : ∃ m, m = xd.length := ⟨_, rfl⟩
          rw [← hxl] at HSM p2 q2
          have HC : Hid (∀ V, Below wr.heap.size wr V → V.cell? ⟨gb1, go1, none⟩ = some (.int .i64 xo) ∧ V.cell? ⟨gb1, go1 + 1, none⟩ = some (.int .i64 xi) ∧ V.cell? ⟨gb1, go1 + 2, none⟩ = some (.slice gx1 xl gz1) ∧ V.cell? ⟨gb2, go2, none⟩ = some (.int .i64 xo) ∧ V.cell? ⟨gb2, go2 + 1, none⟩ = some (.int .i64 xi) ∧ V.cell? ⟨gb2, go2 + 2, none⟩ = some (.slice gx2 xl gz2)) := fun V hV => ⟨cell_below hV p0, cell_below hV p1, cell_below hV p2, cell_below hV q0, cell_below hV q1, cell_below hV q2⟩
          clear hx hA1 hA2 hxl p0 p1 p2 q0 q1 q2
          go_wp2
          refine AnyBut.begin (fun V => V.cell? ⟨gb1, go1, none⟩ = some (.int .i64 xo) ∧ V.cell? ⟨gb1, go1 + 1, none⟩ = some (.int .i64 xi) ∧ V.cell? ⟨gb1, go1 + 2, none⟩ = some (.slice gx1 xl gz1) ∧ V.cell? ⟨gb2, go2, none⟩ = some (.int .i64 xo) ∧ V.cell? ⟨gb2, go2 + 1, none⟩ = some (.int .i64 xi) ∧ V.cell? ⟨gb2, go2 + 2, none⟩ = some (.slice gx2 xl gz2)) 1000 (by kernel_rfl) ?_
          have hSS := HC.out wr.drew (Below.refl _ wr).drew
          refine tx 0 133 hSS ?_
          simp only [ua, ub, uc, ud]
          refine tx 1 134 hSS ?_
          simp only [ua, ub, uc, ud]
          refine tx 2 135 hSS ?_
          simp only [ua, ub, uc, ud]
          refine tx 3 136 hSS ?_
          simp only [ua, ub, uc, ud]
          refine tx 4 137 hSS ?_
          simp only [ua, ub, uc, ud]
          refine tx 5 138 hSS ?_
          simp only [ua, ub, uc, ud]
          refine tx 6 139 hSS ?_
          simp only [ua, ub, uc, ud]
          refine tx 7 140 hSS ?_
          simp only [ua, ub, uc, ud]
          refine tx 8 141 hSS ?_
          simp only [ua, ub, uc, ud]
          refine tx 9 142 hSS ?_
          simp only [ua, ub, uc, ud]
          refine tx 10 143 hSS ?_
          simp only [ua, ub, uc, ud]
          refine tx 11 144 hSS ?_
          simp only [ua, ub, uc, ud]
          refine tx 12 145 hSS ?_
          simp only [ua, ub, uc, ud]
          refine tx 13 146 hSS ?_
          simp only [ua, ub, uc, ud]
          refine tx 14 147 hSS ?_
          simp only [ua, ub, uc, ud]
          refine tx 15 148 hSS ?_
          simp only [ua, ub, uc, ud]
          refine tx 16 149 hSS ?_
          simp only [ua, ub, uc, ud]
          refine tx 17 150 hSS ?_
          simp only [ua, ub, uc, ud]
          refine tx 18 151 hSS ?_
          simp only [ua, ub, uc, ud]
          refine tx 19 152 hSS ?_
          simp only [ua, ub, uc, ud]
          refine tx 20 153 hSS ?_
          simp only [ua, ub, uc, ud]
          refine tx 21 154 hSS ?_
          simp only [ua, ub, uc, ud]
          refine tx 22 155 hSS ?_
          simp only [ua, ub, uc, ud]
          refine tx 23 156 hSS ?_
          simp only [ua, ub, uc, ud]
          refine tx 24 157 hSS ?_
          simp only [ua, ub, uc, ud]
          refine tx 25 158 hSS ?_
          simp only [ua, ub, uc, ud]
          refine tx 26 159 hSS ?_
          simp only [ua, ub, uc, ud]
          refine tx 27 160 hSS ?_
          simp only [ua, ub, uc, ud]
          refine tx 28 161 hSS ?_
          simp only [ua, ub, uc, ud]
          refine tx 29 162 hSS ?_
          simp only [ua, ub, uc, ud]
          refine tx 30 163 hSS ?_
          simp only [ua, ub, uc, ud]
          refine tx 31 164 hSS ?_
          simp only [ua, ub, uc, ud]
          refine tx 32 165 hSS ?_
          simp only [ua, ub, uc, ud]
          refine tx 33 166 hSS ?_
          simp only [ua, ub, uc, ud]
          refine tx 34 167 hSS ?_
          simp only [ua, ub, uc, ud]
          refine AnyBut.step (i := 35) (by kernel_rfl) rfl (fun K hK => ?_)
          go_simp
          refine Calls.mono HSM.out ?_
          rintro e9 w9 ⟨rfl, q9, hq9⟩
          dsimp only
          have hb9 : Below wr.heap.size wr w9 := by rw [hq9]; exact below_drewN (Below.refl _ wr).drew q9
          refine hK.out _ _ (HC.out w9 hb9) ?_
          clear hK hSS hq9
          have hSS := HC.out w9 hb9
          refine tx 36 169 hSS ?_
          simp only [ua, ub, uc, ud]
          refine tx 37 170 hSS ?_
          simp only [ua, ub, uc, ud]
          refine AnyBut.done (by kernel_rfl) ?_
          have HR2 : Hid (Below w26.heap.size w26 w9) := below_any HR.out hb9
          clear hSS hb9 HC HSM
          go_wp2
          go_roundw
          case rel => exact ⟨kk + 1, by omega, by go_num, HR2.out⟩
          case measure => simp [intOf]; omega
        · obtain rfl : kk = zA5 := by omega
          have HQ : Hid (post (.returned (.bool true)) wr) := HPo.out _ (below_any HB.out HR.out)
          go_wp2
          exact HQ.out

set_option maxRecDepth 100000 in
theorem lifted (os : Os) (started : os.Started) (H : Type) (enc : TypeId × Value → H) :
    ReturnsInHanded {} Try.checked os 5 .any (Rows.logFreesSpec.pre6 enc Try.prog Try.f5 Rows.logFreesRow.domain false) (Rows.logFreesSpec.post enc Try.prog Try.f5 false true false false) := by
  refine returnsInHanded_of_change_sized (C := Try.checked) own started (by kernel_rfl) Try.func5
    (ChangeSpec.witness6 (enc := enc) (C := Try.checked) false ⟨#[], #[.agg #[.slice none 0 0, .slice none 0 0, .slice none 0 0, .int .i64 0], .int .i64 0], []⟩ 8 (by kernel_rfl) (by kernel_rfl) (by kernel_rfl) (by kernel_rfl)) ?_
  intro W base args ds gs before hval0 hW hcnd hsz0 _
  have hval : ∀ (j : Nat) t v, Try.f5.params[j]? = some t → args[j]? = some v → Value.okWide Try.prog W .any base t v := hval0
  have hW' := hW
  obtain ⟨p, q, hA0, hV, rfl, hfz, hnd⟩ := hW
  have hA : DataW.TrodAll enc Try.prog W 0 (fun _ => true) true Try.f5.params.toList args.toList ds p := hA0
  have hsz : (DataW.weightsEach Try.prog (Try.f5.params.toList ++ Rows.logFreesSpec.plain.varTypes Try.prog) (ds ++ gs)).all (· ≤ reachBytes) = true := hsz0
  clear hsz0
  rw [Try.params5] at hA hval hsz
  obtain ⟨v0, vs0, d0, ds0, p0, q0, hargs, rfl, rfl, h0, r0⟩ := trodAll_cons hA
  obtain ⟨v1, vs1, d1, ds1, p1, q1, rfl, rfl, rfl, h1, r1⟩ := trodAll_cons r0
  obtain ⟨rfl, rfl, rfl⟩ := trodAll_nil r1
  obtain rfl : args = #[v0, v1] := by cases args; simp_all
  obtain ⟨rfl, rfl⟩ := trodVars_none hV
  obtain ⟨cs0, rfl, hc0⟩ := okWide_struct Try.underlying26 (hval 0 26 v0 rfl rfl)
  obtain ⟨us0, rfl⟩ := as_list cs0
  have k0 := h0
  have lt0 : ∀ x ∈ p0, x.block < W.heap.size := by obtain ⟨m, hm⟩ := k0; exact DataW.trod_lt m _ _ _ hm
  obtain ⟨m0, hm0⟩ := h0
  obtain ⟨s0, A0, F0'⟩ := stR.reads hm0
  have F0 := F0' fun n hn => by have := List.all_eq_true.1 hsz _ (DataW.weights_mem_each (j := 0) rfl rfl n hn); simpa using this
  obtain ⟨a1, rfl, rfl, rfl, w1⟩ := open_int Try.underlying3 (hval 1 3 v1 rfl rfl) h1
  have b1 := bounds_i64 w1
  clear hA0 hval0
  refine (walk 0 us0 s0 a1 W A0 (fits_st F0)).mono fun e W' ⟨he, bel⟩ => ?_
  subst he
  exact ⟨_, rfl, _, _, _, [], _, [], hW', trodAll_mk1 (shut_bool Try.underlying4 _), (trodAll_cons_mk (Below.trod laidOut (by kernel_rfl) (of_decide_eq_true (by kernel_rfl)) k0 bel lt0) (trodAll_cons_mk (shut_int Try.underlying3 w1) trodAll_mk0)), rfl, bel.frame _, fun h => by cases h⟩

theorem over : Rows.logFreesRow.holds Try.pinned (OpenSpec.ofChange Rows.logFreesSpec) :=
  OpenClaim.holds_of_wide 5 Try.f5 rfl rfl rfl rfl rfl rfl rfl ⟨rfl, rfl, rfl, rfl, rfl⟩ rfl rfl rfl rfl rfl (by kernel_rfl) Try.func5 (by kernel_rfl)
    (of_decide_eq_true (by kernel_rfl)) (by unfold Func.isWrapper; first | (rw [if_pos (by decide +kernel)]; kernel_rfl) | (rw [if_neg (by decide +kernel)]; exact ⟨rfl, rfl⟩))
    (fun os started H enc _ => lifted os started H enc)

end Go.Proofs.Ytkpckadicjdieaa.logFrees

namespace Go.Proofs.Ytkpckadicjdieaa
theorem logFrees_holds : Rows.LogFreesSaid := logFrees.over
#print axioms logFrees_holds
end Go.Proofs.Ytkpckadicjdieaa
