/-
  CleanKeeps, proved: for every store and every number (as great as the form reads them): the call returns true, and changes nothing that was in memory. No condition of its own.
-/
import Derived.Test.YtkpckadicjdieabZ13
import Derived.Test.YtkpckadicjdieabZ14
import Derived.Test.YtkpckadicjdieabZ5
import Derived.Test.YtkpckadicjdieabZ15
namespace Go.Proofs.Ytkpckadicjdieab.cleanKeeps
open Go.ChangeShapes Go.WideShapes Go.ChangeAt Go.RowKit
set_option linter.unusedVariables false

set_option maxRecDepth 100000 in
set_option maxHeartbeats 16000000 in
theorem walk (n0 : Nat) (us : List Value) (s : St) (k : Int) (w : World) (h : stR.lies n0 w us s) (hf : FitsL s) :
    Calls Try.prog 3 #[.agg us.toArray, .int .i64 k] w fun e w' => e = .returned (.bool true) ∧ Below w.heap.size w w' := by
  obtain ⟨post, hpost⟩ : ∃ post : Ending → World → Prop, post = fun e w' => e = .returned (.bool true) ∧ Below w.heap.size w w' := ⟨_, rfl⟩
  have HPo : Hid (∀ w', Below w.heap.size w w' → post (.returned (.bool true)) w') := fun w' h => by rw [hpost]; exact ⟨rfl, h⟩
  rw [← hpost]
  clear hpost
  obtain ⟨a0, n0, c0, b0, m0, d0, e0, k0, f0, q0, rfl⟩ := st_flatL h
  have HF : Hid (FitsL s) := hf
  obtain ⟨W, hW⟩ : ∃ W, W = w.alloc (.cells #[.slice a0 n0 c0, .slice b0 m0 d0, .slice e0 k0 f0, .int .i64 q0] 26) := ⟨_, rfl⟩
  have HB : Hid (Below w.heap.size w W) := by rw [hW]; exact (Below.refl _ _).alloc (Nat.le_refl _) _
  have A0 : Hid (Box W w.heap.size 26 #[.slice a0 n0 c0, .slice b0 m0 d0, .slice e0 k0 f0, .int .i64 q0] ∧ stR.lies 0 W [.slice a0 n0 c0, .slice b0 m0 d0, .slice e0 k0 f0, .int .i64 q0] s) := ⟨by rw [hW]; exact Box.new _ _ _, stR.below (stR.weaken h (Nat.zero_le _)) HB.out⟩
  clear h hf
  go_enter Try.func3, Try.ntmps3
  go_upto_region 1 with fail
  rw [← hW]
  clear hW
  have HC := alive16_any W
  go_wp2_with fail
  refine HC.mono ?_
  rintro e9 w9 ⟨rfl, rfl⟩
  clear HC
  have HC := ofL_any 0 [.slice a0 n0 c0, .slice b0 m0 d0, .slice e0 k0 f0, .int .i64 q0] s W A0.out.2 HF.out
  obtain ⟨A0c0, A0c1, A0c2, A0c3, -⟩ := A0.out.1.four
  go_wp2_with (go_at_call 11; refine (num16_any _ _).mono ?_; rintro e9 wn ⟨rfl, rfl⟩)
  clear A0c0 A0c1 A0c2 A0c3
  refine HC.mono ?_
  rintro e9 w1 ⟨⟨us9, rfl, ho9⟩, hb9⟩
  obtain ⟨a1, n1, c1, b1, m1, d1, e1, k1, f1, q1, rfl⟩ := st_fl ho9
  replace A0 : Hid (Box w1 w.heap.size 26 #[.slice a0 n0 c0, .slice b0 m0 d0, .slice e0 k0 f0, .int .i64 q0] ∧ stR.lies 0 w1 [.slice a0 n0 c0, .slice b0 m0 d0, .slice e0 k0 f0, .int .i64 q0] s) := ⟨A0.out.1.below hb9 A0.out.1.lt, stR.below A0.out.2 hb9⟩
  replace HB : Hid (Below w.heap.size w w1) := below_any HB.out hb9
  obtain ⟨X1, hX1⟩ : ∃ X, X = w1.alloc (.cells #[.slice a1 n1 c1, .slice b1 m1 d1, .slice e1 k1 f1, .int .i64 q1] 31) := ⟨_, rfl⟩
  have hbX : Below w1.heap.size w1 X1 := by rw [hX1]; exact (Below.refl _ _).alloc (Nat.le_refl _) _
  have A1 : Hid (Box X1 w1.heap.size 31 #[.slice a1 n1 c1, .slice b1 m1 d1, .slice e1 k1 f1, .int .i64 q1] ∧ stN.lies 0 X1 [.slice a1 n1 c1, .slice b1 m1 d1, .slice e1 k1 f1, .int .i64 q1] s) := ⟨by rw [hX1]; exact Box.new _ _ _, stN.below (stN.weaken (stN.olies ho9) (Nat.zero_le _)) hbX⟩
  replace A0 : Hid (Box X1 w.heap.size 26 #[.slice a0 n0 c0, .slice b0 m0 d0, .slice e0 k0 f0, .int .i64 q0] ∧ stR.lies 0 X1 [.slice a0 n0 c0, .slice b0 m0 d0, .slice e0 k0 f0, .int .i64 q0] s) := ⟨A0.out.1.below hbX A0.out.1.lt, stR.below A0.out.2 hbX⟩
  replace HB : Hid (Below w.heap.size w X1) := below_any HB.out hbX
  clear HC ho9 hb9 hbX
  go_upto_region 4 with fail
  rw [← hX1]
  clear hX1
  obtain ⟨Y, hY⟩ : ∃ Y, Y = X1.alloc (.cells #[.int .i64 k, .int .i64 0] 34) := ⟨_, rfl⟩
  have hbY : Below X1.heap.size X1 Y := by rw [hY]; exact (Below.refl _ _).alloc (Nat.le_refl _) _
  have hRY : Box Y X1.heap.size 34 #[.int .i64 k, .int .i64 0] := by rw [hY]; exact Box.new _ _ _
  have HBY : Hid (Below X1.heap.size X1 Y ∧ Box Y X1.heap.size 34 #[.int .i64 k, .int .i64 0]) := ⟨hbY, hRY⟩
  go_upto_region 5 with fail
  rw [← hY]
  have hl0 := run_len Try.underlying22 a0 n0 c0
  obtain ⟨x0, x1, x2, x3, -⟩ := (A0.out.1.below hbY A0.out.1.lt).four
  have HN0 : Hid (n0 = s.1.length ∧ n0 ≤ 9223372036854775807) := ⟨(st_lenR A0.out.2).1, (st_lenR A0.out.2).2.2.2.1⟩
  have hn0 : n0 ≤ 9223372036854775807 := HN0.out.2
  clear hY hbY hRY
  by_cases hin : 0 ≤ k ∧ k < (n0 : Int)
  case neg =>
    by_cases hk0 : k < 0
    · have hkn : ¬ (0 : Int) ≤ k := by omega
      have hkb : decide ((0 : Int) ≤ k) = false := by simp; omega
      have hce : clE s k 0 ≠ 0 := fun c => by
        obtain ⟨i, p, e1, _, hp, _⟩ := cl_parts c
        have h1 := (List.getElem?_eq_some_iff.1 hp).1
        have h2 := HN0.out.1
        exact hin ⟨by omega, by omega⟩
      obtain ⟨ce, hc⟩ : ∃ z, z = clE s k 0 := ⟨_, rfl⟩
      have HE : Hid (ce = clE s k 0 ∧ clS s k 0 = s0) := ⟨hc, clS_no hce⟩
      have hcb : (ce == 0) = false := by rw [hc]; simpa using hce
      have hcn : ¬ ce = 0 := by rw [hc]; exact hce
      clear hc hce hin
      obtain ⟨r0, r1, -⟩ := HBY.out.2.two
      replace A0 : Hid (Box Y w.heap.size 26 #[.slice a0 n0 c0, .slice b0 m0 d0, .slice e0 k0 f0, .int .i64 q0] ∧ stR.lies 0 Y [.slice a0 n0 c0, .slice b0 m0 d0, .slice e0 k0 f0, .int .i64 q0] s) := ⟨A0.out.1.below HBY.out.1 A0.out.1.lt, stR.below A0.out.2 HBY.out.1⟩
      replace A1 : Hid (Box Y w1.heap.size 31 #[.slice a1 n1 c1, .slice b1 m1 d1, .slice e1 k1 f1, .int .i64 q1] ∧ stN.lies 0 Y [.slice a1 n1 c1, .slice b1 m1 d1, .slice e1 k1 f1, .int .i64 q1] s) := ⟨A1.out.1.below HBY.out.1 A1.out.1.lt, stN.below A1.out.2 HBY.out.1⟩
      replace HB : Hid (Below w.heap.size w Y) := below_any HB.out HBY.out.1
      have HC := clean_any 0 [.slice a1 n1 c1, .slice b1 m1 d1, .slice e1 k1 f1, .int .i64 q1] s k 0 Y A1.out.2
      rw [← HE.out.1] at HC
      obtain ⟨A1c0, A1c1, A1c2, A1c3, -⟩ := A1.out.1.four
      go_wp2_with (go_at_call 11; refine (num16_any _ _).mono ?_; rintro e9 wn ⟨rfl, rfl⟩)
      clear A1c0 A1c1 A1c2 A1c3
      refine HC.mono ?_
      rintro e9 w12 ⟨⟨us9, rfl, ho9⟩, hb9⟩
      obtain ⟨a2, n2, c2, b2, m2, d2, e2, k2, f2, q2, rfl⟩ := st_fl ho9
      replace A0 : Hid (Box w12 w.heap.size 26 #[.slice a0 n0 c0, .slice b0 m0 d0, .slice e0 k0 f0, .int .i64 q0] ∧ stR.lies 0 w12 [.slice a0 n0 c0, .slice b0 m0 d0, .slice e0 k0 f0, .int .i64 q0] s) := ⟨A0.out.1.below hb9 A0.out.1.lt, stR.below A0.out.2 hb9⟩
      replace A1 : Hid (Box w12 w1.heap.size 31 #[.slice a1 n1 c1, .slice b1 m1 d1, .slice e1 k1 f1, .int .i64 q1] ∧ stN.lies 0 w12 [.slice a1 n1 c1, .slice b1 m1 d1, .slice e1 k1 f1, .int .i64 q1] s) := ⟨A1.out.1.below hb9 A1.out.1.lt, stN.below A1.out.2 hb9⟩
      replace HB : Hid (Below w.heap.size w w12) := below_any HB.out hb9
      obtain ⟨X12, hX12⟩ : ∃ X, X = w12.alloc (.cells #[.slice a2 n2 c2, .slice b2 m2 d2, .slice e2 k2 f2, .int .i64 q2] 31) := ⟨_, rfl⟩
      have hbX : Below w12.heap.size w12 X12 := by rw [hX12]; exact (Below.refl _ _).alloc (Nat.le_refl _) _
      have A2 : Hid (Box X12 w12.heap.size 31 #[.slice a2 n2 c2, .slice b2 m2 d2, .slice e2 k2 f2, .int .i64 q2] ∧ stN.lies 0 X12 [.slice a2 n2 c2, .slice b2 m2 d2, .slice e2 k2 f2, .int .i64 q2] (clS s k 0)) := ⟨by rw [hX12]; exact Box.new _ _ _, stN.below (stN.weaken (stN.olies ho9) (Nat.zero_le _)) hbX⟩
      replace A0 : Hid (Box X12 w.heap.size 26 #[.slice a0 n0 c0, .slice b0 m0 d0, .slice e0 k0 f0, .int .i64 q0] ∧ stR.lies 0 X12 [.slice a0 n0 c0, .slice b0 m0 d0, .slice e0 k0 f0, .int .i64 q0] s) := ⟨A0.out.1.below hbX A0.out.1.lt, stR.below A0.out.2 hbX⟩
      replace A1 : Hid (Box X12 w1.heap.size 31 #[.slice a1 n1 c1, .slice b1 m1 d1, .slice e1 k1 f1, .int .i64 q1] ∧ stN.lies 0 X12 [.slice a1 n1 c1, .slice b1 m1 d1, .slice e1 k1 f1, .int .i64 q1] s) := ⟨A1.out.1.below hbX A1.out.1.lt, stN.below A1.out.2 hbX⟩
      replace HB : Hid (Below w.heap.size w X12) := below_any HB.out hbX
      clear HC ho9 hb9 hbX
      go_upto_region 8 with fail
      rw [← hX12]
      clear hX12
      clear r0 r1
      have hn2 : n2 = 0 := by rw [(st_len A2.out.2).1, HE.out.2]; rfl
      subst hn2
      have hl2 := run_len Try.underlying28 a2 0 c2
      obtain ⟨y0, y1, y2, y3, -⟩ := A2.out.1.four
      have HQ : Hid (post (.returned (.bool true)) X12) := HPo.out _ HB.out
      go_wp2_with (go_at_call 11; refine (num16_any _ _).mono ?_; rintro e9 wn ⟨rfl, rfl⟩)
      exact HQ.out
    · have hk1 : (0 : Int) ≤ k := by omega
      have hk2 : (n0 : Int) ≤ k := by omega
      have hk3 : ¬ k < (n0 : Int) := by omega
      have hce : clE s k 0 ≠ 0 := fun c => by
        obtain ⟨i, p, e1, _, hp, _⟩ := cl_parts c
        have h1 := (List.getElem?_eq_some_iff.1 hp).1
        have h2 := HN0.out.1
        exact hin ⟨by omega, by omega⟩
      obtain ⟨ce, hc⟩ : ∃ z, z = clE s k 0 := ⟨_, rfl⟩
      have HE : Hid (ce = clE s k 0 ∧ clS s k 0 = s0) := ⟨hc, clS_no hce⟩
      have hcb : (ce == 0) = false := by rw [hc]; simpa using hce
      have hcn : ¬ ce = 0 := by rw [hc]; exact hce
      clear hc hce hin
      obtain ⟨r0, r1, -⟩ := HBY.out.2.two
      replace A0 : Hid (Box Y w.heap.size 26 #[.slice a0 n0 c0, .slice b0 m0 d0, .slice e0 k0 f0, .int .i64 q0] ∧ stR.lies 0 Y [.slice a0 n0 c0, .slice b0 m0 d0, .slice e0 k0 f0, .int .i64 q0] s) := ⟨A0.out.1.below HBY.out.1 A0.out.1.lt, stR.below A0.out.2 HBY.out.1⟩
      replace A1 : Hid (Box Y w1.heap.size 31 #[.slice a1 n1 c1, .slice b1 m1 d1, .slice e1 k1 f1, .int .i64 q1] ∧ stN.lies 0 Y [.slice a1 n1 c1, .slice b1 m1 d1, .slice e1 k1 f1, .int .i64 q1] s) := ⟨A1.out.1.below HBY.out.1 A1.out.1.lt, stN.below A1.out.2 HBY.out.1⟩
      replace HB : Hid (Below w.heap.size w Y) := below_any HB.out HBY.out.1
      have HC := clean_any 0 [.slice a1 n1 c1, .slice b1 m1 d1, .slice e1 k1 f1, .int .i64 q1] s k 0 Y A1.out.2
      rw [← HE.out.1] at HC
      obtain ⟨A1c0, A1c1, A1c2, A1c3, -⟩ := A1.out.1.four
      go_wp2_with (go_at_call 11; refine (num16_any _ _).mono ?_; rintro e9 wn ⟨rfl, rfl⟩)
      clear A1c0 A1c1 A1c2 A1c3
      refine HC.mono ?_
      rintro e9 w12 ⟨⟨us9, rfl, ho9⟩, hb9⟩
      obtain ⟨a2, n2, c2, b2, m2, d2, e2, k2, f2, q2, rfl⟩ := st_fl ho9
      replace A0 : Hid (Box w12 w.heap.size 26 #[.slice a0 n0 c0, .slice b0 m0 d0, .slice e0 k0 f0, .int .i64 q0] ∧ stR.lies 0 w12 [.slice a0 n0 c0, .slice b0 m0 d0, .slice e0 k0 f0, .int .i64 q0] s) := ⟨A0.out.1.below hb9 A0.out.1.lt, stR.below A0.out.2 hb9⟩
      replace A1 : Hid (Box w12 w1.heap.size 31 #[.slice a1 n1 c1, .slice b1 m1 d1, .slice e1 k1 f1, .int .i64 q1] ∧ stN.lies 0 w12 [.slice a1 n1 c1, .slice b1 m1 d1, .slice e1 k1 f1, .int .i64 q1] s) := ⟨A1.out.1.below hb9 A1.out.1.lt, stN.below A1.out.2 hb9⟩
      replace HB : Hid (Below w.heap.size w w12) := below_any HB.out hb9
      obtain ⟨X12, hX12⟩ : ∃ X, X = w12.alloc (.cells #[.slice a2 n2 c2, .slice b2 m2 d2, .slice e2 k2 f2, .int .i64 q2] 31) := ⟨_, rfl⟩
      have hbX : Below w12.heap.size w12 X12 := by rw [hX12]; exact (Below.refl _ _).alloc (Nat.le_refl _) _
      have A2 : Hid (Box X12 w12.heap.size 31 #[.slice a2 n2 c2, .slice b2 m2 d2, .slice e2 k2 f2, .int .i64 q2] ∧ stN.lies 0 X12 [.slice a2 n2 c2, .slice b2 m2 d2, .slice e2 k2 f2, .int .i64 q2] (clS s k 0)) := ⟨by rw [hX12]; exact Box.new _ _ _, stN.below (stN.weaken (stN.olies ho9) (Nat.zero_le _)) hbX⟩
      replace A0 : Hid (Box X12 w.heap.size 26 #[.slice a0 n0 c0, .slice b0 m0 d0, .slice e0 k0 f0, .int .i64 q0] ∧ stR.lies 0 X12 [.slice a0 n0 c0, .slice b0 m0 d0, .slice e0 k0 f0, .int .i64 q0] s) := ⟨A0.out.1.below hbX A0.out.1.lt, stR.below A0.out.2 hbX⟩
      replace A1 : Hid (Box X12 w1.heap.size 31 #[.slice a1 n1 c1, .slice b1 m1 d1, .slice e1 k1 f1, .int .i64 q1] ∧ stN.lies 0 X12 [.slice a1 n1 c1, .slice b1 m1 d1, .slice e1 k1 f1, .int .i64 q1] s) := ⟨A1.out.1.below hbX A1.out.1.lt, stN.below A1.out.2 hbX⟩
      replace HB : Hid (Below w.heap.size w X12) := below_any HB.out hbX
      clear HC ho9 hb9 hbX
      go_upto_region 8 with fail
      rw [← hX12]
      clear hX12
      clear r0 r1
      have hn2 : n2 = 0 := by rw [(st_len A2.out.2).1, HE.out.2]; rfl
      subst hn2
      have hl2 := run_len Try.underlying28 a2 0 c2
      obtain ⟨y0, y1, y2, y3, -⟩ := A2.out.1.four
      have HQ : Hid (post (.returned (.bool true)) X12) := HPo.out _ HB.out
      go_wp2_with (go_at_call 11; refine (num16_any _ _).mono ?_; rintro e9 wn ⟨rfl, rfl⟩)
      exact HQ.out

  obtain ⟨hk1, hk2⟩ := hin
  obtain ⟨i, rfl⟩ : ∃ i : Nat, k = i := ⟨k.toNat, by omega⟩
  obtain ⟨p, hp⟩ := get_lt (l := s.1) (k := i) (by have := HN0.out.1; omega)
  obtain ⟨gb, gof, ga, gc, hix, hc0, -⟩ := sgs_atR (sgsR.below (st_segR A0.out.2).1 HBY.out.1) i p hp
  obtain ⟨pq, hpq⟩ : ∃ z, z = p.1 := ⟨_, rfl⟩
  rw [← hpq] at hc0
  obtain ⟨X, hX⟩ : ∃ X, X = Y.setCell ⟨X1.heap.size, 1, none⟩ (.int .i64 pq) := ⟨_, rfl⟩
  have HBX : Hid (Below X1.heap.size X1 X ∧ Box X X1.heap.size 34 #[.int .i64 (i : Int), .int .i64 pq]) := by
    rw [hX]
    exact ⟨HBY.out.1.setCell (p := ⟨X1.heap.size, 1, none⟩) (Nat.le_refl _) _, HBY.out.2.set 1 _⟩
  obtain ⟨r0, r1, f0', f1'⟩ := HBY.out.2.two
  clear hpq hp
  go_upto_region 7 with fail
  rw [← hX]
  clear hX r0 r1 f0' f1' hix hc0 x0 x1 x2 x3
  obtain ⟨ce, hc⟩ : ∃ z, z = clE s (i : Int) pq := ⟨_, rfl⟩
  have HE : Hid (ce = clE s (i : Int) pq) := hc
  clear hc
  obtain ⟨r0, r1, -⟩ := HBX.out.2.two
  replace A0 : Hid (Box X w.heap.size 26 #[.slice a0 n0 c0, .slice b0 m0 d0, .slice e0 k0 f0, .int .i64 q0] ∧ stR.lies 0 X [.slice a0 n0 c0, .slice b0 m0 d0, .slice e0 k0 f0, .int .i64 q0] s) := ⟨A0.out.1.below HBX.out.1 A0.out.1.lt, stR.below A0.out.2 HBX.out.1⟩
  replace A1 : Hid (Box X w1.heap.size 31 #[.slice a1 n1 c1, .slice b1 m1 d1, .slice e1 k1 f1, .int .i64 q1] ∧ stN.lies 0 X [.slice a1 n1 c1, .slice b1 m1 d1, .slice e1 k1 f1, .int .i64 q1] s) := ⟨A1.out.1.below HBX.out.1 A1.out.1.lt, stN.below A1.out.2 HBX.out.1⟩
  replace HB : Hid (Below w.heap.size w X) := below_any HB.out HBX.out.1
  have HC := clean_any 0 [.slice a1 n1 c1, .slice b1 m1 d1, .slice e1 k1 f1, .int .i64 q1] s (i : Int) pq X A1.out.2
  rw [← HE.out] at HC
  obtain ⟨A1c0, A1c1, A1c2, A1c3, -⟩ := A1.out.1.four
  go_wp2_with (go_at_call 11; refine (num16_any _ _).mono ?_; rintro e9 wn ⟨rfl, rfl⟩)
  clear A1c0 A1c1 A1c2 A1c3
  refine HC.mono ?_
  rintro e9 w32 ⟨⟨us9, rfl, ho9⟩, hb9⟩
  obtain ⟨a2, n2, c2, b2, m2, d2, e2, k2, f2, q2, rfl⟩ := st_fl ho9
  replace A0 : Hid (Box w32 w.heap.size 26 #[.slice a0 n0 c0, .slice b0 m0 d0, .slice e0 k0 f0, .int .i64 q0] ∧ stR.lies 0 w32 [.slice a0 n0 c0, .slice b0 m0 d0, .slice e0 k0 f0, .int .i64 q0] s) := ⟨A0.out.1.below hb9 A0.out.1.lt, stR.below A0.out.2 hb9⟩
  replace A1 : Hid (Box w32 w1.heap.size 31 #[.slice a1 n1 c1, .slice b1 m1 d1, .slice e1 k1 f1, .int .i64 q1] ∧ stN.lies 0 w32 [.slice a1 n1 c1, .slice b1 m1 d1, .slice e1 k1 f1, .int .i64 q1] s) := ⟨A1.out.1.below hb9 A1.out.1.lt, stN.below A1.out.2 hb9⟩
  replace HB : Hid (Below w.heap.size w w32) := below_any HB.out hb9
  obtain ⟨X32, hX32⟩ : ∃ X, X = w32.alloc (.cells #[.slice a2 n2 c2, .slice b2 m2 d2, .slice e2 k2 f2, .int .i64 q2] 31) := ⟨_, rfl⟩
  have hbX : Below w32.heap.size w32 X32 := by rw [hX32]; exact (Below.refl _ _).alloc (Nat.le_refl _) _
  have A2 : Hid (Box X32 w32.heap.size 31 #[.slice a2 n2 c2, .slice b2 m2 d2, .slice e2 k2 f2, .int .i64 q2] ∧ stN.lies 0 X32 [.slice a2 n2 c2, .slice b2 m2 d2, .slice e2 k2 f2, .int .i64 q2] (clS s (i : Int) pq)) := ⟨by rw [hX32]; exact Box.new _ _ _, stN.below (stN.weaken (stN.olies ho9) (Nat.zero_le _)) hbX⟩
  replace A0 : Hid (Box X32 w.heap.size 26 #[.slice a0 n0 c0, .slice b0 m0 d0, .slice e0 k0 f0, .int .i64 q0] ∧ stR.lies 0 X32 [.slice a0 n0 c0, .slice b0 m0 d0, .slice e0 k0 f0, .int .i64 q0] s) := ⟨A0.out.1.below hbX A0.out.1.lt, stR.below A0.out.2 hbX⟩
  replace A1 : Hid (Box X32 w1.heap.size 31 #[.slice a1 n1 c1, .slice b1 m1 d1, .slice e1 k1 f1, .int .i64 q1] ∧ stN.lies 0 X32 [.slice a1 n1 c1, .slice b1 m1 d1, .slice e1 k1 f1, .int .i64 q1] s) := ⟨A1.out.1.below hbX A1.out.1.lt, stN.below A1.out.2 hbX⟩
  replace HB : Hid (Below w.heap.size w X32) := below_any HB.out hbX
  clear HC ho9 hb9 hbX
  go_upto_region 8 with fail
  rw [← hX32]
  clear hX32
  clear r0 r1
  have hl2 := run_len Try.underlying28 a2 n2 c2
  by_cases hce : ce = 0
  case neg =>
    have hn2 : n2 = 0 := by rw [(st_len A2.out.2).1, clS_no (by rw [← HE.out]; exact hce)]; rfl
    subst hn2
    have hcb : (ce == 0) = false := by simpa using hce
    obtain ⟨y0, y1, y2, y3, -⟩ := A2.out.1.four
    have HQ : Hid (post (.returned (.bool true)) X32) := HPo.out _ HB.out
    go_wp2_with (go_at_call 11; refine (num16_any _ _).mono ?_; rintro e9 wn ⟨rfl, rfl⟩)
    exact HQ.out
  subst hce
  have HOK : Hid (Ok s ∧ Ok (clS s (i : Int) pq) ∧ clE s (i : Int) pq = 0) := ⟨(cl_parts HE.out.symm).choose_spec.choose_spec.2.1, clS_ok HE.out.symm, HE.out.symm⟩
  have HC := all_any 0 [.slice a1 n1 c1, .slice b1 m1 d1, .slice e1 k1 f1, .int .i64 q1] s X32 A1.out.2
  rw [okE_ok HOK.out.1] at HC
  obtain ⟨A1c0, A1c1, A1c2, A1c3, -⟩ := A1.out.1.four
  go_wp2_with (go_at_call 11; refine (num16_any _ _).mono ?_; rintro e9 wn ⟨rfl, rfl⟩)
  clear A1c0 A1c1 A1c2 A1c3
  refine HC.mono ?_
  rintro e9 w33 ⟨⟨v9, L1, rfl, ho9, hA9, hN9⟩, hb9⟩
  have HL1 : Hid ((Ok s → AllOf s L1) ∧ (¬ Ok s → L1 = [])) := ⟨hA9, hN9⟩
  obtain ⟨aA3, cA3, _, hv9, -⟩ := Shape.list_own (S := bkN) (ht := Try.underlying29) (hc := cells29) ho9
  obtain rfl : v9 = _ := (List.cons.inj hv9).1
  obtain ⟨zA3, hz9⟩ : ∃ z, z = (L1).length := ⟨_, rfl⟩
  rw [← hz9] at ho9 ⊢
  have A3 : Hid (bksN.lies 0 w33 [.slice aA3 zA3 cA3] L1) := bksN.weaken (bksN.olies ho9) (Nat.zero_le _)
  have A3l : Hid (zA3 = (L1).length) := hz9
  replace A0 : Hid (Box w33 w.heap.size 26 #[.slice a0 n0 c0, .slice b0 m0 d0, .slice e0 k0 f0, .int .i64 q0] ∧ stR.lies 0 w33 [.slice a0 n0 c0, .slice b0 m0 d0, .slice e0 k0 f0, .int .i64 q0] s) := ⟨A0.out.1.below hb9 A0.out.1.lt, stR.below A0.out.2 hb9⟩
  replace A1 : Hid (Box w33 w1.heap.size 31 #[.slice a1 n1 c1, .slice b1 m1 d1, .slice e1 k1 f1, .int .i64 q1] ∧ stN.lies 0 w33 [.slice a1 n1 c1, .slice b1 m1 d1, .slice e1 k1 f1, .int .i64 q1] s) := ⟨A1.out.1.below hb9 A1.out.1.lt, stN.below A1.out.2 hb9⟩
  replace A2 : Hid (Box w33 w32.heap.size 31 #[.slice a2 n2 c2, .slice b2 m2 d2, .slice e2 k2 f2, .int .i64 q2] ∧ stN.lies 0 w33 [.slice a2 n2 c2, .slice b2 m2 d2, .slice e2 k2 f2, .int .i64 q2] (clS s (i : Int) pq)) := ⟨A2.out.1.below hb9 A2.out.1.lt, stN.below A2.out.2 hb9⟩
  replace HB : Hid (Below w.heap.size w w33) := below_any HB.out hb9
  clear HC ho9 hb9 hv9 hz9 hA9 hN9
  have HC := all_any 0 [.slice a2 n2 c2, .slice b2 m2 d2, .slice e2 k2 f2, .int .i64 q2] (clS s (i : Int) pq) w33 A2.out.2
  rw [okE_ok HOK.out.2.1] at HC
  obtain ⟨A2c0, A2c1, A2c2, A2c3, -⟩ := A2.out.1.four
  go_wp2_with fail
  clear A2c0 A2c1 A2c2 A2c3
  refine HC.mono ?_
  rintro e9 w34 ⟨⟨v9, L2, rfl, ho9, hA9, hN9⟩, hb9⟩
  have HL2 : Hid ((Ok (clS s (i : Int) pq) → AllOf (clS s (i : Int) pq) L2) ∧ (¬ Ok (clS s (i : Int) pq) → L2 = [])) := ⟨hA9, hN9⟩
  obtain ⟨aA4, cA4, _, hv9, -⟩ := Shape.list_own (S := bkN) (ht := Try.underlying29) (hc := cells29) ho9
  obtain rfl : v9 = _ := (List.cons.inj hv9).1
  obtain ⟨zA4, hz9⟩ : ∃ z, z = (L2).length := ⟨_, rfl⟩
  rw [← hz9] at ho9 ⊢
  have A4 : Hid (bksN.lies 0 w34 [.slice aA4 zA4 cA4] L2) := bksN.weaken (bksN.olies ho9) (Nat.zero_le _)
  have A4l : Hid (zA4 = (L2).length) := hz9
  replace A0 : Hid (Box w34 w.heap.size 26 #[.slice a0 n0 c0, .slice b0 m0 d0, .slice e0 k0 f0, .int .i64 q0] ∧ stR.lies 0 w34 [.slice a0 n0 c0, .slice b0 m0 d0, .slice e0 k0 f0, .int .i64 q0] s) := ⟨A0.out.1.below hb9 A0.out.1.lt, stR.below A0.out.2 hb9⟩
  replace A1 : Hid (Box w34 w1.heap.size 31 #[.slice a1 n1 c1, .slice b1 m1 d1, .slice e1 k1 f1, .int .i64 q1] ∧ stN.lies 0 w34 [.slice a1 n1 c1, .slice b1 m1 d1, .slice e1 k1 f1, .int .i64 q1] s) := ⟨A1.out.1.below hb9 A1.out.1.lt, stN.below A1.out.2 hb9⟩
  replace A2 : Hid (Box w34 w32.heap.size 31 #[.slice a2 n2 c2, .slice b2 m2 d2, .slice e2 k2 f2, .int .i64 q2] ∧ stN.lies 0 w34 [.slice a2 n2 c2, .slice b2 m2 d2, .slice e2 k2 f2, .int .i64 q2] (clS s (i : Int) pq)) := ⟨A2.out.1.below hb9 A2.out.1.lt, stN.below A2.out.2 hb9⟩
  replace A3 : Hid (bksN.lies 0 w34 [(.slice aA3 zA3 cA3)] L1) := bksN.below A3.out hb9
  replace HB : Hid (Below w.heap.size w w34) := below_any HB.out hb9
  clear HC ho9 hb9 hv9 hz9 hA9 hN9
  obtain rfl : L1 = L2 := ((HL1.out.1 HOK.out.1).same (fun o j => clS_last HOK.out.2.2 o j)).eq (HL2.out.1 HOK.out.2.1)
  obtain rfl : zA4 = zA3 := by rw [A3l.out, A4l.out]
  have hlA3 := run_len Try.underlying29 aA3 zA4 cA3
  have hlA4 := run_len Try.underlying29 aA4 zA4 cA4
  have hzn : ((zA4 : Int) != (zA4 : Int)) = false := by simp
  have HC := checkL_any 0 [.slice a2 n2 c2, .slice b2 m2 d2, .slice e2 k2 f2, .int .i64 q2] (clS s (i : Int) pq) w34 A2.out.2
  rw [okE_ok HOK.out.2.1] at HC
  obtain ⟨A2c0, A2c1, A2c2, A2c3, -⟩ := A2.out.1.four
  go_wp2_with (go_at_call 11; refine (num16_any _ _).mono ?_; rintro e9 wn ⟨rfl, rfl⟩)
  clear A2c0 A2c1 A2c2 A2c3
  refine HC.mono ?_
  rintro e9 w35 ⟨rfl, hb9⟩
  replace A0 : Hid (Box w35 w.heap.size 26 #[.slice a0 n0 c0, .slice b0 m0 d0, .slice e0 k0 f0, .int .i64 q0] ∧ stR.lies 0 w35 [.slice a0 n0 c0, .slice b0 m0 d0, .slice e0 k0 f0, .int .i64 q0] s) := ⟨A0.out.1.below hb9 A0.out.1.lt, stR.below A0.out.2 hb9⟩
  replace A1 : Hid (Box w35 w1.heap.size 31 #[.slice a1 n1 c1, .slice b1 m1 d1, .slice e1 k1 f1, .int .i64 q1] ∧ stN.lies 0 w35 [.slice a1 n1 c1, .slice b1 m1 d1, .slice e1 k1 f1, .int .i64 q1] s) := ⟨A1.out.1.below hb9 A1.out.1.lt, stN.below A1.out.2 hb9⟩
  replace A2 : Hid (Box w35 w32.heap.size 31 #[.slice a2 n2 c2, .slice b2 m2 d2, .slice e2 k2 f2, .int .i64 q2] ∧ stN.lies 0 w35 [.slice a2 n2 c2, .slice b2 m2 d2, .slice e2 k2 f2, .int .i64 q2] (clS s (i : Int) pq)) := ⟨A2.out.1.below hb9 A2.out.1.lt, stN.below A2.out.2 hb9⟩
  replace A3 : Hid (bksN.lies 0 w35 [(.slice aA3 zA4 cA3)] L1) := bksN.below A3.out hb9
  replace A4 : Hid (bksN.lies 0 w35 [(.slice aA4 zA4 cA4)] L1) := bksN.below A4.out hb9
  replace HB : Hid (Below w.heap.size w w35) := below_any HB.out hb9
  clear HC hb9
  obtain ⟨i2, e2, hi2, hp2⟩ := clS_free HOK.out.2.2
  obtain rfl : i = i2 := by omega
  obtain ⟨gb, gof, ga, gc, hix, hc0, -⟩ := sgs_atN (st_seg A2.out.2).1 i _ hp2
  have hi3 : (i : Int) < (n2 : Int) := by have := (st_len A2.out.2).1; omega
  have hi4 : ¬ (n2 : Int) ≤ (i : Int) := by omega
  have hi5 : decide (n2 ≤ i) = false := by simp; omega
  obtain ⟨y0, y1, y2, y3, -⟩ := A2.out.1.four
  have hzb : zA4 ≤ 9223372036854775807 := by
    obtain ⟨_, _, e8, _, h8, _⟩ := Shape.list_len (S := bkN) (ht := Try.underlying29) (hc := cells29) A3.out
    unfold maxLen at h8
    have := A3l.out
    omega
  clear e2 hi2 hp2 HL1 HL2 HOK HE A1
  go_wp2_with (go_at_call 11; refine (num16_any _ _).mono ?_; rintro e9 wn ⟨rfl, rfl⟩)
  clear y0 y1 y2 y3 hix hc0
  go_loopw [13] (fun i wr => ∃ k : Nat, k ≤ zA4 ∧ i = .int .i64 k ∧ Hid (Below w35.heap.size w35 wr)) (fun i _ => zA4 - (intOf i).toNat)
  case atStart => exact ⟨0, Nat.zero_le _, rfl, Below.refl _ _⟩
  case round =>
    obtain ⟨kk, hk, rfl, HR⟩ := hrel
    by_cases hlt : kk < zA4
    · obtain ⟨x, hx⟩ := get_lt (l := L1) (k := kk) (by rw [← A3l.out]; exact hlt)
      obtain ⟨gb1, go1, gx1, gz1, hix1, p0, p1, p2, hA1, _⟩ := bks_atN (bksN.below A3.out HR.out) kk x hx
      obtain ⟨gb2, go2, gx2, gz2, hix2, q0, q1, q2, hA2, _⟩ := bks_atN (bksN.below A4.out HR.out) kk x hx
      have hkn : (kk : Int) < (zA4 : Int) := by omega
      have HSM : Hid (Calls Try.prog 14 #[.slice gx1 x.2.2.length gz1, .slice gx2 x.2.2.length gz2] wr.drew fun e w' => e = .returned (.bool (decide (x.2.2 = x.2.2))) ∧ ∃ q, w' = wr.drew.drewN q) := same_any 0 0 _ _ _ _ _ (hA1.below (Below.refl _ wr).drew) (hA2.below (Below.refl _ wr).drew)
      rw [decide_eq_true rfl] at HSM
      obtain ⟨xo, xi, xd⟩ := x
      simp only at p0 p1 p2 q0 q1 q2 HSM
      obtain ⟨xl, hxl⟩ : ∃ m, m = xd.length := ⟨_, rfl⟩
      rw [← hxl] at HSM p2 q2
      have HC : Hid (∀ V, Below wr.heap.size wr V → V.cell? ⟨gb1, go1, none⟩ = some (.int .i64 xo) ∧ V.cell? ⟨gb1, go1 + 1, none⟩ = some (.int .i64 xi) ∧ V.cell? ⟨gb1, go1 + 2, none⟩ = some (.slice gx1 xl gz1) ∧ V.cell? ⟨gb2, go2, none⟩ = some (.int .i64 xo) ∧ V.cell? ⟨gb2, go2 + 1, none⟩ = some (.int .i64 xi) ∧ V.cell? ⟨gb2, go2 + 2, none⟩ = some (.slice gx2 xl gz2)) := fun V hV => ⟨cell_below hV p0, cell_below hV p1, cell_below hV p2, cell_below hV q0, cell_below hV q1, cell_below hV q2⟩
      clear hx hA1 hA2 hxl p0 p1 p2 q0 q1 q2
      go_wp2
      refine AnyBut.begin (fun V => V.cell? ⟨gb1, go1, none⟩ = some (.int .i64 xo) ∧ V.cell? ⟨gb1, go1 + 1, none⟩ = some (.int .i64 xi) ∧ V.cell? ⟨gb1, go1 + 2, none⟩ = some (.slice gx1 xl gz1) ∧ V.cell? ⟨gb2, go2, none⟩ = some (.int .i64 xo) ∧ V.cell? ⟨gb2, go2 + 1, none⟩ = some (.int .i64 xi) ∧ V.cell? ⟨gb2, go2 + 2, none⟩ = some (.slice gx2 xl gz2)) 1000 (by kernel_rfl) ?_
      have hSS := HC.out wr.drew (Below.refl _ wr).drew
      refine tx 0 100 hSS ?_
      simp only [ua, ub, uc, ud]
      refine tx 1 101 hSS ?_
      simp only [ua, ub, uc, ud]
      refine tx 2 102 hSS ?_
      simp only [ua, ub, uc, ud]
      refine tx 3 103 hSS ?_
      simp only [ua, ub, uc, ud]
      refine tx 4 104 hSS ?_
      simp only [ua, ub, uc, ud]
      refine tx 5 105 hSS ?_
      simp only [ua, ub, uc, ud]
      refine tx 6 106 hSS ?_
      simp only [ua, ub, uc, ud]
      refine tx 7 107 hSS ?_
      simp only [ua, ub, uc, ud]
      refine tx 8 108 hSS ?_
      simp only [ua, ub, uc, ud]
      refine tx 9 109 hSS ?_
      simp only [ua, ub, uc, ud]
      refine tx 10 110 hSS ?_
      simp only [ua, ub, uc, ud]
      refine tx 11 111 hSS ?_
      simp only [ua, ub, uc, ud]
      refine tx 12 112 hSS ?_
      simp only [ua, ub, uc, ud]
      refine tx 13 113 hSS ?_
      simp only [ua, ub, uc, ud]
      refine tx 14 114 hSS ?_
      simp only [ua, ub, uc, ud]
      refine tx 15 115 hSS ?_
      simp only [ua, ub, uc, ud]
      refine tx 16 116 hSS ?_
      simp only [ua, ub, uc, ud]
      refine tx 17 117 hSS ?_
      simp only [ua, ub, uc, ud]
      refine tx 18 118 hSS ?_
      simp only [ua, ub, uc, ud]
      refine tx 19 119 hSS ?_
      simp only [ua, ub, uc, ud]
      refine tx 20 120 hSS ?_
      simp only [ua, ub, uc, ud]
      refine tx 21 121 hSS ?_
      simp only [ua, ub, uc, ud]
      refine tx 22 122 hSS ?_
      simp only [ua, ub, uc, ud]
      refine tx 23 123 hSS ?_
      simp only [ua, ub, uc, ud]
      refine tx 24 124 hSS ?_
      simp only [ua, ub, uc, ud]
      refine tx 25 125 hSS ?_
      simp only [ua, ub, uc, ud]
      refine tx 26 126 hSS ?_
      simp only [ua, ub, uc, ud]
      refine tx 27 127 hSS ?_
      simp only [ua, ub, uc, ud]
      refine tx 28 128 hSS ?_
      simp only [ua, ub, uc, ud]
      refine tx 29 129 hSS ?_
      simp only [ua, ub, uc, ud]
      refine tx 30 130 hSS ?_
      simp only [ua, ub, uc, ud]
      refine tx 31 131 hSS ?_
      simp only [ua, ub, uc, ud]
      refine tx 32 132 hSS ?_
      simp only [ua, ub, uc, ud]
      refine tx 33 133 hSS ?_
      simp only [ua, ub, uc, ud]
      refine tx 34 134 hSS ?_
      simp only [ua, ub, uc, ud]
      refine AnyBut.step (i := 35) (by kernel_rfl) rfl (fun K hK => ?_)
      go_simp
      refine Calls.mono HSM.out ?_
      rintro e9 w9 ⟨rfl, q9, hq9⟩
      dsimp only
      have hb9 : Below wr.heap.size wr w9 := by rw [hq9]; exact below_drewN (Below.refl _ wr).drew q9
      refine hK.out _ _ (HC.out w9 hb9) ?_
      clear hK hSS hq9
      have hSS := HC.out w9 hb9
      refine tx 36 136 hSS ?_
      simp only [ua, ub, uc, ud]
      refine tx 37 137 hSS ?_
      simp only [ua, ub, uc, ud]
      refine AnyBut.done (by kernel_rfl) ?_
      have HR2 : Hid (Below w35.heap.size w35 w9) := below_any HR.out hb9
      clear hSS hb9 HC HSM
      go_wp2
      go_roundw
      case rel => exact ⟨kk + 1, by omega, by go_num, HR2.out⟩
      case measure => simp [intOf]; omega
    · obtain rfl : kk = zA4 := by omega
      have HQ : Hid (post (.returned (.bool true)) wr) := HPo.out _ (below_any HB.out HR.out)
      go_wp2
      exact HQ.out
set_option maxRecDepth 100000 in
theorem lifted (os : Os) (started : os.Started) (H : Type) (enc : TypeId × Value → H) :
    ReturnsInHanded {} Try.checked os 3 .any (Rows.cleanKeepsSpec.pre6 enc Try.prog Try.f3 Rows.cleanKeepsRow.domain false) (Rows.cleanKeepsSpec.post enc Try.prog Try.f3 false true false false) := by
  refine returnsInHanded_of_change_sized (C := Try.checked) own started (by kernel_rfl) Try.func3
    (ChangeSpec.witness6 (enc := enc) (C := Try.checked) false ⟨#[], #[.agg #[.slice none 0 0, .slice none 0 0, .slice none 0 0, .int .i64 0], .int .i64 0], []⟩ 8 (by kernel_rfl) (by kernel_rfl) (by kernel_rfl) (by kernel_rfl)) ?_
  intro W base args ds gs before hval0 hW hcnd hsz0 _
  have hval : ∀ (j : Nat) t v, Try.f3.params[j]? = some t → args[j]? = some v → Value.okWide Try.prog W .any base t v := hval0
  have hW' := hW
  obtain ⟨p, q, hA0, hV, rfl, hfz, hnd⟩ := hW
  have hA : DataW.TrodAll enc Try.prog W 0 (fun _ => true) true Try.f3.params.toList args.toList ds p := hA0
  have hsz : (DataW.weightsEach Try.prog (Try.f3.params.toList ++ Rows.cleanKeepsSpec.plain.varTypes Try.prog) (ds ++ gs)).all (· ≤ reachBytes) = true := hsz0
  clear hsz0
  rw [Try.params3] at hA hval hsz
  obtain ⟨v0, vs0, d0, ds0, p0, q0, hargs, rfl, rfl, h0, r0⟩ := trodAll_cons hA
  obtain ⟨v1, vs1, d1, ds1, p1, q1, rfl, rfl, rfl, h1, r1⟩ := trodAll_cons r0
  obtain ⟨rfl, rfl, rfl⟩ := trodAll_nil r1
  obtain rfl : args = #[v0, v1] := by cases args; simp_all
  obtain ⟨rfl, rfl⟩ := trodVars_none hV
  obtain ⟨cs0, rfl, hc0⟩ := okWide_struct Try.underlying26 (hval 0 26 v0 rfl rfl)
  obtain ⟨us0, rfl⟩ := as_list cs0
  have k0 := h0
  have lt0 : ∀ x ∈ p0, x.block < W.heap.size := by obtain ⟨m, hm⟩ := k0; exact DataW.trod_lt m _ _ _ hm
  obtain ⟨m0, hm0⟩ := h0
  obtain ⟨s0, A0, F0'⟩ := stR.reads hm0
  have F0 := F0' fun n hn => by have := List.all_eq_true.1 hsz _ (DataW.weights_mem_each (j := 0) rfl rfl n hn); simpa using this
  obtain ⟨a1, rfl, rfl, rfl, w1⟩ := open_int Try.underlying3 (hval 1 3 v1 rfl rfl) h1
  have b1 := bounds_i64 w1
  clear hA0 hval0
  refine (walk 0 us0 s0 a1 W A0 (fits_st F0)).mono fun e W' ⟨he, bel⟩ => ?_
  subst he
  exact ⟨_, rfl, _, _, _, [], _, [], hW', trodAll_mk1 (shut_bool Try.underlying4 _), (trodAll_cons_mk (Below.trod laidOut (by kernel_rfl) (of_decide_eq_true (by kernel_rfl)) k0 bel lt0) (trodAll_cons_mk (shut_int Try.underlying3 w1) trodAll_mk0)), rfl, bel.frame _, fun h => by cases h⟩

theorem over : Rows.cleanKeepsRow.holds Try.pinned (OpenSpec.ofChange Rows.cleanKeepsSpec) :=
  OpenClaim.holds_of_wide 3 Try.f3 rfl rfl rfl rfl rfl rfl rfl ⟨rfl, rfl, rfl, rfl, rfl⟩ rfl rfl rfl rfl rfl (by kernel_rfl) Try.func3 (by kernel_rfl)
    (of_decide_eq_true (by kernel_rfl)) (by unfold Func.isWrapper; first | (rw [if_pos (by decide +kernel)]; kernel_rfl) | (rw [if_neg (by decide +kernel)]; exact ⟨rfl, rfl⟩))
    (fun os started H enc _ => lifted os started H enc)

end Go.Proofs.Ytkpckadicjdieab.cleanKeeps

namespace Go.Proofs.Ytkpckadicjdieab
theorem cleanKeeps_holds : Rows.CleanKeepsSaid := cleanKeeps.over
#print axioms cleanKeeps_holds
end Go.Proofs.Ytkpckadicjdieab
