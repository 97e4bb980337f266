/-
  CleanOwn, proved: for every store and every record (as great as the form reads them): the call returns true, and changes nothing that was in memory. No condition of its own.
-/
import Derived.Test.YtkpckadicjdieabZ12
import Derived.Test.YtkpckadicjdieabZ14
import Derived.Test.YtkpckadicjdieabZ2
namespace Go.Proofs.Ytkpckadicjdieab.cleanOwn
open Go.ChangeShapes Go.WideShapes Go.ChangeAt Go.RowKit
set_option linter.unusedVariables false

set_option maxRecDepth 100000 in
set_option maxHeartbeats 32000000 in
theorem walk (n0 n1 : Nat) (us ur : List Value) (s : St) (r : Int × Int) (w : World) (h : stR.lies n0 w us s) (hf : FitsL s) (hr : recR.lies n1 w ur r) :
    Calls Try.prog 6 #[.agg us.toArray, .agg ur.toArray] w fun e w' => e = .returned (.bool true) ∧ Below w.heap.size w w' := by
  obtain ⟨post, hpost⟩ : ∃ post : Ending → World → Prop, post = fun e w' => e = .returned (.bool true) ∧ Below w.heap.size w w' := ⟨_, rfl⟩
  have HPo : Hid (∀ w', Below w.heap.size w w' → post (.returned (.bool true)) w') := fun w' h => by rw [hpost]; exact ⟨rfl, h⟩
  rw [← hpost]
  clear hpost
  obtain ⟨a0, n0, c0, b0, m0, d0, e0, k0, f0, q0, rfl⟩ := st_flatL h
  obtain ⟨rfl, -, -⟩ := rec_view hr
  obtain ⟨k, q⟩ := r
  simp only
  have HF : Hid (FitsL s) := hf
  obtain ⟨W, hW⟩ : ∃ W, W = (w.alloc (.cells #[.slice a0 n0 c0, .slice b0 m0 d0, .slice e0 k0 f0, .int .i64 q0] 26)).alloc (.cells #[.int .i64 k, .int .i64 q] 56) := ⟨_, rfl⟩
  have HB : Hid (Below w.heap.size w W) := by rw [hW]; exact ((Below.refl _ _).alloc (Nat.le_refl _) _).alloc (by simp) _
  have A0 : Hid (Box W w.heap.size 26 #[.slice a0 n0 c0, .slice b0 m0 d0, .slice e0 k0 f0, .int .i64 q0] ∧ stR.lies 0 W [.slice a0 n0 c0, .slice b0 m0 d0, .slice e0 k0 f0, .int .i64 q0] s) := ⟨by rw [hW]; exact (Box.new _ _ _).alloc _, stR.below (stR.weaken h (Nat.zero_le _)) HB.out⟩
  have R0 : Hid (Box W (w.heap.size + 1) 56 #[.int .i64 k, .int .i64 q]) := by
    rw [hW]
    have := Box.new (w.alloc (.cells #[.slice a0 n0 c0, .slice b0 m0 d0, .slice e0 k0 f0, .int .i64 q0] 26)) 56 #[.int .i64 k, .int .i64 q]
    rwa [World.size_alloc] at this
  obtain ⟨ce, h6⟩ : ∃ z, z = clE s k q := ⟨_, rfl⟩
  have HE : Hid (ce = clE s k q) := h6
  clear h6
  clear h hf hr
  go_enter Try.func6, Try.ntmps6
  go_upto_region 1 with fail
  rw [← hW]
  clear hW
  have HC := alive16_any W
  go_wp2_with fail
  refine HC.mono ?_
  rintro e9 w9 ⟨rfl, rfl⟩
  clear HC
  have HC := ofL_any 0 [.slice a0 n0 c0, .slice b0 m0 d0, .slice e0 k0 f0, .int .i64 q0] s W A0.out.2 HF.out
  obtain ⟨A0c0, A0c1, A0c2, A0c3, -⟩ := A0.out.1.four
  go_wp2_with fail
  clear A0c0 A0c1 A0c2 A0c3
  refine HC.mono ?_
  rintro e9 w2 ⟨⟨us9, rfl, ho9⟩, hb9⟩
  obtain ⟨a1, n1, c1, b1, m1, d1, e1, k1, f1, q1, rfl⟩ := st_fl ho9
  obtain ⟨bs, hbs⟩ : ∃ b, b = W.heap.size := ⟨_, rfl⟩
  have HBS : Hid (w.heap.size ≤ bs ∧ bs ≤ w2.heap.size) := ⟨by rw [hbs]; exact HB.out.size, by rw [hbs]; exact hb9.size⟩
  rw [← hbs] at ho9
  replace A0 : Hid (Box w2 w.heap.size 26 #[.slice a0 n0 c0, .slice b0 m0 d0, .slice e0 k0 f0, .int .i64 q0] ∧ stR.lies 0 w2 [.slice a0 n0 c0, .slice b0 m0 d0, .slice e0 k0 f0, .int .i64 q0] s) := ⟨A0.out.1.below hb9 A0.out.1.lt, stR.below A0.out.2 hb9⟩
  replace R0 : Hid (Box w2 (w.heap.size + 1) 56 #[.int .i64 k, .int .i64 q]) := R0.out.below hb9 R0.out.lt
  replace HB : Hid (Below w.heap.size w w2) := below_any HB.out hb9
  obtain ⟨X2, hX2⟩ : ∃ X, X = w2.alloc (.cells #[.slice a1 n1 c1, .slice b1 m1 d1, .slice e1 k1 f1, .int .i64 q1] 31) := ⟨_, rfl⟩
  have hbX : Below w2.heap.size w2 X2 := by rw [hX2]; exact (Below.refl _ _).alloc (Nat.le_refl _) _
  have A1 : Hid (Box X2 w2.heap.size 31 #[.slice a1 n1 c1, .slice b1 m1 d1, .slice e1 k1 f1, .int .i64 q1] ∧ stN.lies 0 X2 [.slice a1 n1 c1, .slice b1 m1 d1, .slice e1 k1 f1, .int .i64 q1] s) := ⟨by rw [hX2]; exact Box.new _ _ _, stN.below (stN.weaken (stN.olies ho9) (Nat.zero_le _)) hbX⟩
  obtain ⟨N, hN⟩ : ∃ N, N = X2.heap.size := ⟨_, rfl⟩
  have RS : Hid (RawS bs N X2 (.slice a1 n1 c1) n1 ∧ (∃ hd : List Bool, hd.length = m1 ∧ boolsS.owns bs X2 [.slice b1 m1 d1] hd ∧ ∀ g, (Value.slice b1 m1 d1).ownBlock = some g → g < N) ∧ Raw bs N X2 (.slice e1 k1 f1) k1) := by
    obtain ⟨a9, c9, b9, d9, e9, f9, hu9, h1, h2, h3, _⟩ := st_ownN (stN.obelow ho9 hbX)
    simp only [List.cons.injEq, Value.slice.injEq, and_true] at hu9
    obtain ⟨⟨rfl, hn, rfl⟩, ⟨rfl, hm, rfl⟩, ⟨rfl, hk, rfl⟩, _⟩ := hu9
    rw [hN, hn, hm, hk]
    refine ⟨RawS.of h1, ⟨s.2.1, rfl, h2, fun g hg => ?_⟩, Raw.of h3⟩
    obtain ⟨v', hv', hC, _⟩ := h2
    obtain rfl : Value.slice b1 s.2.1.length d1 = v' := by simpa using hv'
    exact (hC.lt g hg).2
  have HLEN : Hid (n1 ≤ 9223372036854775807 ∧ m1 ≤ 9223372036854775807 ∧ k1 ≤ 9223372036854775807) := (st_len A1.out.2).2.2.2
  have HNS : Hid (N ≤ X2.heap.size) := Nat.le_of_eq hN
  replace A0 : Hid (Box X2 w.heap.size 26 #[.slice a0 n0 c0, .slice b0 m0 d0, .slice e0 k0 f0, .int .i64 q0] ∧ stR.lies 0 X2 [.slice a0 n0 c0, .slice b0 m0 d0, .slice e0 k0 f0, .int .i64 q0] s) := ⟨A0.out.1.below hbX A0.out.1.lt, stR.below A0.out.2 hbX⟩
  replace R0 : Hid (Box X2 (w.heap.size + 1) 56 #[.int .i64 k, .int .i64 q]) := R0.out.below hbX R0.out.lt
  replace HB : Hid (Below w.heap.size w X2) := below_any HB.out hbX
  clear HC ho9 hb9 hbX hbs hN
  go_upto_region 4 with fail
  rw [← hX2]
  clear hX2
  have HC := clean_any 0 [.slice a1 n1 c1, .slice b1 m1 d1, .slice e1 k1 f1, .int .i64 q1] s k q X2 A1.out.2
  rw [← HE.out] at HC
  obtain ⟨A1c0, A1c1, A1c2, A1c3, -⟩ := A1.out.1.four
  obtain ⟨R0t0, R0t1, -⟩ := R0.out.two
  go_wp2_with fail
  clear A1c0 A1c1 A1c2 A1c3
  clear R0t0 R0t1
  refine HC.mono ?_
  rintro e9 y1 ⟨⟨us9, rfl, ho9⟩, hb9⟩
  obtain ⟨a2, n2, c2, b2, m2, d2, e2, k2, f2, q2, rfl⟩ := st_fl ho9
  have hNz : N ≤ X2.heap.size := HNS.out
  replace HNS : Hid (N ≤ y1.heap.size) := Nat.le_trans hNz hb9.size
  replace A0 : Hid (Box y1 w.heap.size 26 #[.slice a0 n0 c0, .slice b0 m0 d0, .slice e0 k0 f0, .int .i64 q0] ∧ stR.lies 0 y1 [.slice a0 n0 c0, .slice b0 m0 d0, .slice e0 k0 f0, .int .i64 q0] s) := ⟨A0.out.1.below hb9 A0.out.1.lt, stR.below A0.out.2 hb9⟩
  replace R0 : Hid (Box y1 (w.heap.size + 1) 56 #[.int .i64 k, .int .i64 q]) := R0.out.below hb9 R0.out.lt
  replace A1 : Hid (Box y1 w2.heap.size 31 #[.slice a1 n1 c1, .slice b1 m1 d1, .slice e1 k1 f1, .int .i64 q1] ∧ stN.lies 0 y1 [.slice a1 n1 c1, .slice b1 m1 d1, .slice e1 k1 f1, .int .i64 q1] s) := ⟨A1.out.1.below hb9 A1.out.1.lt, stN.below A1.out.2 hb9⟩
  replace RS : Hid (RawS bs N y1 (.slice a1 n1 c1) n1 ∧ (∃ hd : List Bool, hd.length = m1 ∧ boolsS.owns bs y1 [.slice b1 m1 d1] hd ∧ ∀ g, (Value.slice b1 m1 d1).ownBlock = some g → g < N) ∧ Raw bs N y1 (.slice e1 k1 f1) k1) := ⟨RS.out.1.same (.of_below hb9), by obtain ⟨hd, h1, h2, h3⟩ := RS.out.2.1; exact ⟨hd, h1, boolsS.obelow h2 hb9, h3⟩, RS.out.2.2.same (.of_below hb9)⟩
  replace HB : Hid (Below w.heap.size w y1) := below_any HB.out hb9
  obtain ⟨Y1, hY1⟩ : ∃ X, X = y1.alloc (.cells #[.slice a2 n2 c2, .slice b2 m2 d2, .slice e2 k2 f2, .int .i64 q2] 31) := ⟨_, rfl⟩
  have hbX : Below y1.heap.size y1 Y1 := by rw [hY1]; exact (Below.refl _ _).alloc (Nat.le_refl _) _
  have A2 : Hid (Box Y1 y1.heap.size 31 #[.slice a2 n2 c2, .slice b2 m2 d2, .slice e2 k2 f2, .int .i64 q2] ∧ stN.lies N Y1 [.slice a2 n2 c2, .slice b2 m2 d2, .slice e2 k2 f2, .int .i64 q2] (clS s k q) ∧ N ≤ y1.heap.size) := ⟨by rw [hY1]; exact Box.new _ _ _, stN.below (stN.weaken (stN.olies ho9) hNz) hbX, HNS.out⟩
  replace HNS : Hid (N ≤ Y1.heap.size) := Nat.le_trans HNS.out hbX.size
  replace A0 : Hid (Box Y1 w.heap.size 26 #[.slice a0 n0 c0, .slice b0 m0 d0, .slice e0 k0 f0, .int .i64 q0] ∧ stR.lies 0 Y1 [.slice a0 n0 c0, .slice b0 m0 d0, .slice e0 k0 f0, .int .i64 q0] s) := ⟨A0.out.1.below hbX A0.out.1.lt, stR.below A0.out.2 hbX⟩
  replace R0 : Hid (Box Y1 (w.heap.size + 1) 56 #[.int .i64 k, .int .i64 q]) := R0.out.below hbX R0.out.lt
  replace A1 : Hid (Box Y1 w2.heap.size 31 #[.slice a1 n1 c1, .slice b1 m1 d1, .slice e1 k1 f1, .int .i64 q1] ∧ stN.lies 0 Y1 [.slice a1 n1 c1, .slice b1 m1 d1, .slice e1 k1 f1, .int .i64 q1] s) := ⟨A1.out.1.below hbX A1.out.1.lt, stN.below A1.out.2 hbX⟩
  replace RS : Hid (RawS bs N Y1 (.slice a1 n1 c1) n1 ∧ (∃ hd : List Bool, hd.length = m1 ∧ boolsS.owns bs Y1 [.slice b1 m1 d1] hd ∧ ∀ g, (Value.slice b1 m1 d1).ownBlock = some g → g < N) ∧ Raw bs N Y1 (.slice e1 k1 f1) k1) := ⟨RS.out.1.same (.of_below hbX), by obtain ⟨hd, h1, h2, h3⟩ := RS.out.2.1; exact ⟨hd, h1, boolsS.obelow h2 hbX, h3⟩, RS.out.2.2.same (.of_below hbX)⟩
  replace HB : Hid (Below w.heap.size w Y1) := below_any HB.out hbX
  clear HC ho9 hb9 hbX hNz
  go_upto_region 5 with fail
  rw [← hY1]
  clear hY1
  have HC := rclean_any 0 [.slice a0 n0 c0, .slice b0 m0 d0, .slice e0 k0 f0, .int .i64 q0] s k q Y1 A0.out.2
  rw [← HE.out] at HC
  obtain ⟨A0c0, A0c1, A0c2, A0c3, -⟩ := A0.out.1.four
  obtain ⟨R0t0, R0t1, -⟩ := R0.out.two
  go_wp2_with fail
  clear A0c0 A0c1 A0c2 A0c3
  clear R0t0 R0t1
  refine HC.mono ?_
  rintro e9 y2 ⟨⟨us9, rfl, ho9⟩, hb9⟩
  obtain ⟨a3, n3, c3, b3, m3, d3, e3, k3, f3, q3, rfl⟩ := st_flatR ho9
  have hNz : N ≤ Y1.heap.size := HNS.out
  replace HNS : Hid (N ≤ y2.heap.size) := Nat.le_trans hNz hb9.size
  replace A0 : Hid (Box y2 w.heap.size 26 #[.slice a0 n0 c0, .slice b0 m0 d0, .slice e0 k0 f0, .int .i64 q0] ∧ stR.lies 0 y2 [.slice a0 n0 c0, .slice b0 m0 d0, .slice e0 k0 f0, .int .i64 q0] s) := ⟨A0.out.1.below hb9 A0.out.1.lt, stR.below A0.out.2 hb9⟩
  replace R0 : Hid (Box y2 (w.heap.size + 1) 56 #[.int .i64 k, .int .i64 q]) := R0.out.below hb9 R0.out.lt
  replace A1 : Hid (Box y2 w2.heap.size 31 #[.slice a1 n1 c1, .slice b1 m1 d1, .slice e1 k1 f1, .int .i64 q1] ∧ stN.lies 0 y2 [.slice a1 n1 c1, .slice b1 m1 d1, .slice e1 k1 f1, .int .i64 q1] s) := ⟨A1.out.1.below hb9 A1.out.1.lt, stN.below A1.out.2 hb9⟩
  replace RS : Hid (RawS bs N y2 (.slice a1 n1 c1) n1 ∧ (∃ hd : List Bool, hd.length = m1 ∧ boolsS.owns bs y2 [.slice b1 m1 d1] hd ∧ ∀ g, (Value.slice b1 m1 d1).ownBlock = some g → g < N) ∧ Raw bs N y2 (.slice e1 k1 f1) k1) := ⟨RS.out.1.same (.of_below hb9), by obtain ⟨hd, h1, h2, h3⟩ := RS.out.2.1; exact ⟨hd, h1, boolsS.obelow h2 hb9, h3⟩, RS.out.2.2.same (.of_below hb9)⟩
  replace A2 : Hid (Box y2 y1.heap.size 31 #[.slice a2 n2 c2, .slice b2 m2 d2, .slice e2 k2 f2, .int .i64 q2] ∧ stN.lies N y2 [.slice a2 n2 c2, .slice b2 m2 d2, .slice e2 k2 f2, .int .i64 q2] (clS s k q) ∧ N ≤ y1.heap.size) := ⟨A2.out.1.below hb9 A2.out.1.lt, stN.below A2.out.2.1 hb9, A2.out.2.2⟩
  replace HB : Hid (Below w.heap.size w y2) := below_any HB.out hb9
  obtain ⟨Y2, hY2⟩ : ∃ X, X = y2.alloc (.cells #[.slice a3 n3 c3, .slice b3 m3 d3, .slice e3 k3 f3, .int .i64 q3] 26) := ⟨_, rfl⟩
  have hbX : Below y2.heap.size y2 Y2 := by rw [hY2]; exact (Below.refl _ _).alloc (Nat.le_refl _) _
  have A3 : Hid (Box Y2 y2.heap.size 26 #[.slice a3 n3 c3, .slice b3 m3 d3, .slice e3 k3 f3, .int .i64 q3] ∧ stR.lies N Y2 [.slice a3 n3 c3, .slice b3 m3 d3, .slice e3 k3 f3, .int .i64 q3] (clS s k q) ∧ N ≤ y2.heap.size) := ⟨by rw [hY2]; exact Box.new _ _ _, stR.below (stR.weaken (stR.olies ho9) hNz) hbX, HNS.out⟩
  replace HNS : Hid (N ≤ Y2.heap.size) := Nat.le_trans HNS.out hbX.size
  replace A0 : Hid (Box Y2 w.heap.size 26 #[.slice a0 n0 c0, .slice b0 m0 d0, .slice e0 k0 f0, .int .i64 q0] ∧ stR.lies 0 Y2 [.slice a0 n0 c0, .slice b0 m0 d0, .slice e0 k0 f0, .int .i64 q0] s) := ⟨A0.out.1.below hbX A0.out.1.lt, stR.below A0.out.2 hbX⟩
  replace R0 : Hid (Box Y2 (w.heap.size + 1) 56 #[.int .i64 k, .int .i64 q]) := R0.out.below hbX R0.out.lt
  replace A1 : Hid (Box Y2 w2.heap.size 31 #[.slice a1 n1 c1, .slice b1 m1 d1, .slice e1 k1 f1, .int .i64 q1] ∧ stN.lies 0 Y2 [.slice a1 n1 c1, .slice b1 m1 d1, .slice e1 k1 f1, .int .i64 q1] s) := ⟨A1.out.1.below hbX A1.out.1.lt, stN.below A1.out.2 hbX⟩
  replace RS : Hid (RawS bs N Y2 (.slice a1 n1 c1) n1 ∧ (∃ hd : List Bool, hd.length = m1 ∧ boolsS.owns bs Y2 [.slice b1 m1 d1] hd ∧ ∀ g, (Value.slice b1 m1 d1).ownBlock = some g → g < N) ∧ Raw bs N Y2 (.slice e1 k1 f1) k1) := ⟨RS.out.1.same (.of_below hbX), by obtain ⟨hd, h1, h2, h3⟩ := RS.out.2.1; exact ⟨hd, h1, boolsS.obelow h2 hbX, h3⟩, RS.out.2.2.same (.of_below hbX)⟩
  replace A2 : Hid (Box Y2 y1.heap.size 31 #[.slice a2 n2 c2, .slice b2 m2 d2, .slice e2 k2 f2, .int .i64 q2] ∧ stN.lies N Y2 [.slice a2 n2 c2, .slice b2 m2 d2, .slice e2 k2 f2, .int .i64 q2] (clS s k q) ∧ N ≤ y1.heap.size) := ⟨A2.out.1.below hbX A2.out.1.lt, stN.below A2.out.2.1 hbX, A2.out.2.2⟩
  replace HB : Hid (Below w.heap.size w Y2) := below_any HB.out hbX
  clear HC ho9 hb9 hbX hNz
  go_upto_region 6 with fail
  rw [← hY2]
  clear hY2
  have SP : Hid (SPL w Y2 bs N w2.heap.size (.slice a1 n1 c1) (.slice b1 m1 d1) (.slice e1 k1 f1) n1 m1 k1 q1 Y2) := ⟨fun _ _ _ => rfl, Nat.le_refl _, HB.out, A1.out.1, RS.out.1, RS.out.2.2, RS.out.2.1⟩
  clear A1 RS R0
  have hl1 := run_len Try.underlying28 a1 n1 c1
  have hl3 := run_len Try.underlying29 e1 k1 f1
  have hn1 : n1 ≤ 9223372036854775807 ∧ m1 ≤ 9223372036854775807 ∧ k1 ≤ 9223372036854775807 := HLEN.out
  go_wp2
  go_loopw [10] (fun i wr => ∃ k : Nat, k ≤ n1 ∧ i = .int .i64 k ∧ Hid (SPL w Y2 bs N w2.heap.size (.slice a1 n1 c1) (.slice b1 m1 d1) (.slice e1 k1 f1) n1 m1 k1 q1 wr)) (fun i _ => n1 - (intOf i).toNat)
  case atStart => exact ⟨0, Nat.zero_le _, rfl, SP.out⟩
  case round =>
    clear SP
    obtain ⟨kk, hk, rfl, SP⟩ := hrel
    obtain ⟨x0, x1, x2, x3, -⟩ := SP.out.box.four
    by_cases hlt : kk < n1
    · obtain ⟨g, a9, m9, c9, cs9, hix, hcs, hR, hm9, hB9⟩ := SP.out.segs.hold kk hlt
      have hc9 := hB9.cell _ hcs
      have hki : (kk : Int) < (n1 : Int) := by omega
      have hl9 := run_len Try.underlying29 a9 m9 c9
      have HG : Hid (cs9[kk * 2 + 1]? = some (.slice a9 m9 c9)) := hcs
      unfold maxLen at hm9
      have S0 : Hid (SPL w Y2 bs N w2.heap.size (.slice a1 n1 c1) (.slice b1 m1 d1) (.slice e1 k1 f1) n1 m1 k1 q1 wr ∧ Raw bs N wr (.slice a9 m9 c9) m9 ∧ Box wr g 45 cs9) := ⟨SP.out, hR, hB9⟩
      clear hcs hR hB9
      go_wp2
      clear x0 x1 x2 x3 hc9
      go_loopw [11] (fun i wr => ∃ j : Nat, j ≤ m9 ∧ i = .int .i64 j ∧ Hid (SPL w Y2 bs N w2.heap.size (.slice a1 n1 c1) (.slice b1 m1 d1) (.slice e1 k1 f1) n1 m1 k1 q1 wr ∧ Raw bs N wr (.slice a9 m9 c9) m9 ∧ Box wr g 45 cs9)) (fun i _ => m9 - (intOf i).toNat)
      case atStart => exact ⟨0, Nat.zero_le _, rfl, S0.out⟩
      case round =>
        clear S0
        obtain ⟨j, hj, rfl, SJ⟩ := hrel
        obtain ⟨x0, x1, x2, x3, -⟩ := SJ.out.1.box.four
        have hc9 := SJ.out.2.2.cell _ HG.out
        by_cases hjm : j < m9
        · obtain ⟨b8, o8, a8, m8, c8, hix8, hc8, hE8, hl8⟩ := SJ.out.2.1.at j hjm
          have hji : (j : Int) < (m9 : Int) := by omega
          have HC := spoil_eight bs (.slice a8 m8 c8) m8 wr hE8
          have H8 : Hid (Eight bs wr (.slice a8 m8 c8) m8 ∧ ∀ g, (Value.slice a8 m8 c8).ownBlock = some g → g < N) := ⟨hE8, hl8⟩
          clear hE8 hl8
          go_wp2_with fail
          refine HC.mono ?_
          rintro e9 w9 ⟨rfl, hg9, hE9⟩
          have SJ2 : Hid (SPL w Y2 bs N w2.heap.size (.slice a1 n1 c1) (.slice b1 m1 d1) (.slice e1 k1 f1) n1 m1 k1 q1 w9 ∧ Raw bs N w9 (.slice a9 m9 c9) m9 ∧ Box w9 g 45 cs9) := ⟨SJ.out.1.step HBS.out.1 H8.out.1 H8.out.2 hg9 hE9, SJ.out.2.1.spoilt H8.out.1 hg9 hE9, SJ.out.2.2.grown hg9 (H8.out.1.box SJ.out.2.2 (by decide))⟩
          clear HC hg9 hE9 x0 x1 x2 x3 hc9 hix8 hc8
          go_wp2
          go_roundw
          case rel => exact ⟨j + 1, by omega, by go_num, SJ2.out⟩
          case measure => simp [intOf]; omega
        · obtain rfl : j = m9 := by omega
          have SP2 : Hid (SPL w Y2 bs N w2.heap.size (.slice a1 n1 c1) (.slice b1 m1 d1) (.slice e1 k1 f1) n1 m1 k1 q1 wr) := SJ.out.1
          go_wp2
          go_roundw
          case rel => exact ⟨kk + 1, by omega, by go_num, SP2.out⟩
          case measure => simp [intOf]; omega
    · obtain rfl : kk = n1 := by omega
      go_wp2
      clear x0 x1 x2 x3
      go_loopw [12] (fun i wr => ∃ j : Nat, j ≤ k1 ∧ i = .int .i64 j ∧ Hid (SPL w Y2 bs N w2.heap.size (.slice a1 kk c1) (.slice b1 m1 d1) (.slice e1 k1 f1) kk m1 k1 q1 wr)) (fun i _ => k1 - (intOf i).toNat)
      case atStart => exact ⟨0, Nat.zero_le _, rfl, SP.out⟩
      case round =>
        clear SP
        obtain ⟨j, hj, rfl, SP⟩ := hrel
        obtain ⟨x0, x1, x2, x3, -⟩ := SP.out.box.four
        by_cases hjm : j < k1
        · obtain ⟨b8, o8, a8, m8, c8, hix8, hc8, hE8, hl8⟩ := SP.out.opn.at j hjm
          have hji : (j : Int) < (k1 : Int) := by omega
          have HC := spoil_eight bs (.slice a8 m8 c8) m8 wr hE8
          have H8 : Hid (Eight bs wr (.slice a8 m8 c8) m8 ∧ ∀ g, (Value.slice a8 m8 c8).ownBlock = some g → g < N) := ⟨hE8, hl8⟩
          clear hE8 hl8
          go_wp2_with fail
          refine HC.mono ?_
          rintro e9 w9 ⟨rfl, hg9, hE9⟩
          have SP2 : Hid (SPL w Y2 bs N w2.heap.size (.slice a1 kk c1) (.slice b1 m1 d1) (.slice e1 k1 f1) kk m1 k1 q1 w9) := SP.out.step HBS.out.1 H8.out.1 H8.out.2 hg9 hE9
          clear HC hg9 hE9 x0 x1 x2 x3 hix8 hc8
          go_wp2
          go_roundw
          case rel => exact ⟨j + 1, by omega, by go_num, SP2.out⟩
          case measure => simp [intOf]; omega
        · obtain rfl : j = k1 := by omega
          obtain ⟨p0, p1, p2, p3, -⟩ := (SP.out.keep A2.out.1 A2.out.2.2).four
          obtain ⟨r0, r1, r2, r3, -⟩ := (SP.out.keep A3.out.1 A3.out.2.2).four
          have HC := alikeL_same N N [.slice a2 n2 c2, .slice b2 m2 d2, .slice e2 k2 f2, .int .i64 q2] [.slice a3 n3 c3, .slice b3 m3 d3, .slice e3 k3 f3, .int .i64 q3] (clS s k q) wr (stN.keep A2.out.2.1 SP.out.same) (stR.keep A3.out.2.1 SP.out.same)
          go_wp2_with (go_at_call 11; refine (num16_any _ _).mono ?_; rintro e9 wn ⟨rfl, rfl⟩)
          clear p0 p1 p2 p3 r0 r1 r2 r3 x0 x1 x2 x3
          refine HC.mono ?_
          rintro e9 w10 ⟨rfl, hb10⟩
          have HQ : Hid (post (.returned (.bool true)) w10) := HPo.out _ (below_any SP.out.bel hb10)
          clear HC hb10
          go_wp2
          exact HQ.out
set_option maxRecDepth 100000 in
theorem lifted (os : Os) (started : os.Started) (H : Type) (enc : TypeId × Value → H) :
    ReturnsInHanded {} Try.checked os 6 .any (Rows.cleanOwnSpec.pre6 enc Try.prog Try.f6 Rows.cleanOwnRow.domain false) (Rows.cleanOwnSpec.post enc Try.prog Try.f6 false true false false) := by
  refine returnsInHanded_of_change_sized (C := Try.checked) own started (by kernel_rfl) Try.func6
    (ChangeSpec.witness6 (enc := enc) (C := Try.checked) false ⟨#[], #[.agg #[.slice none 0 0, .slice none 0 0, .slice none 0 0, .int .i64 0], .agg #[.int .i64 0, .int .i64 0]], []⟩ 8 (by kernel_rfl) (by kernel_rfl) (by kernel_rfl) (by kernel_rfl)) ?_
  intro W base args ds gs before hval0 hW hcnd hsz0 _
  have hval : ∀ (j : Nat) t v, Try.f6.params[j]? = some t → args[j]? = some v → Value.okWide Try.prog W .any base t v := hval0
  have hW' := hW
  obtain ⟨p, q, hA0, hV, rfl, hfz, hnd⟩ := hW
  have hA : DataW.TrodAll enc Try.prog W 0 (fun _ => true) true Try.f6.params.toList args.toList ds p := hA0
  have hsz : (DataW.weightsEach Try.prog (Try.f6.params.toList ++ Rows.cleanOwnSpec.plain.varTypes Try.prog) (ds ++ gs)).all (· ≤ reachBytes) = true := hsz0
  clear hsz0
  rw [Try.params6] at hA hval hsz
  obtain ⟨v0, vs0, d0, ds0, p0, q0, hargs, rfl, rfl, h0, r0⟩ := trodAll_cons hA
  obtain ⟨v1, vs1, d1, ds1, p1, q1, rfl, rfl, rfl, h1, r1⟩ := trodAll_cons r0
  obtain ⟨rfl, rfl, rfl⟩ := trodAll_nil r1
  obtain rfl : args = #[v0, v1] := by cases args; simp_all
  obtain ⟨rfl, rfl⟩ := trodVars_none hV
  obtain ⟨cs0, rfl, hc0⟩ := okWide_struct Try.underlying26 (hval 0 26 v0 rfl rfl)
  obtain ⟨us0, rfl⟩ := as_list cs0
  have k0 := h0
  have lt0 : ∀ x ∈ p0, x.block < W.heap.size := by obtain ⟨m, hm⟩ := k0; exact DataW.trod_lt m _ _ _ hm
  obtain ⟨m0, hm0⟩ := h0
  obtain ⟨s0, A0, F0'⟩ := stR.reads hm0
  have F0 := F0' fun n hn => by have := List.all_eq_true.1 hsz _ (DataW.weights_mem_each (j := 0) rfl rfl n hn); simpa using this
  obtain ⟨cs1, rfl, hc1⟩ := okWide_struct Try.underlying56 (hval 1 56 v1 rfl rfl)
  obtain ⟨us1, rfl⟩ := as_list cs1
  have k1 := h1
  have lt1 : ∀ x ∈ p1, x.block < W.heap.size := by obtain ⟨m, hm⟩ := k1; exact DataW.trod_lt m _ _ _ hm
  obtain ⟨m1, hm1⟩ := h1
  obtain ⟨s1, A1, F1'⟩ := recR.reads hm1
  have F1 := F1' fun n hn => by have := List.all_eq_true.1 hsz _ (DataW.weights_mem_each (j := 1) rfl rfl n hn); simpa using this
  clear hA0 hval0
  refine (walk 0 0 us0 us1 s0 s1 W A0 (fits_st F0) A1).mono fun e W' ⟨he, bel⟩ => ?_
  subst he
  exact ⟨_, rfl, _, _, _, [], _, [], hW', trodAll_mk1 (shut_bool Try.underlying4 _), (trodAll_cons_mk (Below.trod laidOut (by kernel_rfl) (of_decide_eq_true (by kernel_rfl)) k0 bel lt0) (trodAll_cons_mk (Below.trod laidOut (by kernel_rfl) (of_decide_eq_true (by kernel_rfl)) k1 bel lt1) trodAll_mk0)), rfl, bel.frame _, fun h => by cases h⟩

theorem over : Rows.cleanOwnRow.holds Try.pinned (OpenSpec.ofChange Rows.cleanOwnSpec) :=
  OpenClaim.holds_of_wide 6 Try.f6 rfl rfl rfl rfl rfl rfl rfl ⟨rfl, rfl, rfl, rfl, rfl⟩ rfl rfl rfl rfl rfl (by kernel_rfl) Try.func6 (by kernel_rfl)
    (of_decide_eq_true (by kernel_rfl)) (by unfold Func.isWrapper; first | (rw [if_pos (by decide +kernel)]; kernel_rfl) | (rw [if_neg (by decide +kernel)]; exact ⟨rfl, rfl⟩))
    (fun os started H enc _ => lifted os started H enc)

end Go.Proofs.Ytkpckadicjdieab.cleanOwn

namespace Go.Proofs.Ytkpckadicjdieab
theorem cleanOwn_holds : Rows.CleanOwnSaid := cleanOwn.over
#print axioms cleanOwn_holds
end Go.Proofs.Ytkpckadicjdieab
