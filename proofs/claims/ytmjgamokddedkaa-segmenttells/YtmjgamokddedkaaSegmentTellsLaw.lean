/-
  SegmentTells, proved: for every segment and all octets (as great as the form reads them): the call returns true, and changes nothing that was in memory. No condition of its own.
-/
import Derived.Test.YtmjgamokddedkaaROpen
import Derived.Test.YtmjgamokddedkaaROwners
import Derived.Test.YtmjgamokddedkaaRSeal
import Derived.Test.YtmjgamokddedkaaSameI
import Derived.Test.YtmjgamokddedkaaAlive
import Derived.Test.YtmjgamokddedkaaAlikeL
import Derived.Test.YtmjgamokddedkaaFrame
namespace Go.Proofs.Ytmjgamokddedkaa.segmentTells
open Go.ChangeShapes Go.WideShapes Go.ChangeAt Go.RowKit
set_option linter.unusedVariables false

theorem same_true {n1 n2 : Nat} {v1 v2 : Value} {l : List Int} (w : World) (h1 : Arg n1 w v1 l) (h2 : Arg n2 w v2 l) :
    Calls Try.prog 17 #[v1, v2] w fun e w' => e = .returned (.bool true) ∧ Below w.heap.size w w' := by
  refine (same_any n1 n2 v1 v2 l l w h1 h2).mono ?_
  rintro e w' ⟨rfl, nq, rfl⟩
  exact ⟨by rw [decide_eq_true rfl], below_drewN (Below.refl _ _) _⟩

set_option maxRecDepth 100000 in
set_option maxHeartbeats 16000000 in
theorem walk (n0 n1 : Nat) (us : List Value) (s : Sg) (v : Value) (b : List Int) (w : World) (h : sgR.lies n0 w us s) (hf : Fits s) (hv : Arg n1 w v b) (hvf : b.length ≤ 140737488351232) :
    Calls Try.prog 3 #[.agg us.toArray, v] w fun e w' => e = .returned (.bool true) ∧ Below w.heap.size w w' := by
  have HFF : Hid (Fits s ∧ b.length ≤ 140737488351232) := ⟨hf, hvf⟩
  obtain ⟨ra, rc, rfl, -⟩ := sg_viewR h
  obtain ⟨W, hW⟩ : ∃ W, W = w.alloc (.cells #[.int .i64 s.1, .slice ra s.2.length rc] 24) := ⟨_, rfl⟩
  have hb0 : Below w.heap.size w W := by rw [hW]; exact (Below.refl _ _).alloc (Nat.le_refl _) _
  have hx0 : Box W w.heap.size 24 #[.int .i64 s.1, .slice ra s.2.length rc] := by rw [hW]; exact Box.new _ _ _
  obtain ⟨sn, hsn⟩ : ∃ z, z = s.2.length := ⟨_, rfl⟩
  obtain ⟨q, hq⟩ : ∃ z, z = s.1 := ⟨_, rfl⟩
  have HQN : Hid (q = s.1 ∧ sn = s.2.length) := ⟨hq, hsn⟩
  rw [← hsn, ← hq] at hW hx0 h
  rw [← hsn, ← hq]
  obtain ⟨ce, hce⟩ : ∃ z, z = cerr s := ⟨_, rfl⟩
  have HCE : Hid (cerr s = ce) := hce.symm
  obtain ⟨oe, hoe⟩ : ∃ z, z = oE b := ⟨_, rfl⟩
  have HOE : Hid (oE b = oe) := hoe.symm
  clear hsn hq hce hoe
  have HB : Hid (Below w.heap.size w W) := hb0
  have X2 : Hid (Box W w.heap.size 24 #[.int .i64 q, .slice ra sn rc]) := hx0
  have LR : Hid (sgR.lies 0 W [.int .i64 q, .slice ra sn rc] s) := sgR.weaken (sgR.below h hb0) (Nat.zero_le _)
  have AV : Hid (Arg 0 W v b) := (hv.below hb0).weaken (Nat.zero_le _)
  clear h hf hv hvf hb0 hx0
  obtain ⟨g0, g1, -, -⟩ := X2.out.two
  have HC := of_any _ _ s W LR.out HFF.out.1
  rw [hW] at g0 g1
  go_enter Try.func3, Try.ntmps3
  go_wp2_with fail
  rw [← hW]
  clear hW g0 g1
  refine HC.mono ?_
  rintro e w1 ⟨⟨us1, rfl, hO1⟩, hb1⟩
  obtain ⟨a1, c1, rfl, hL1, hI1⟩ := sg_ownN hO1
  rw [← HQN.out.1, ← HQN.out.2] at hO1
  rw [← HQN.out.1, ← HQN.out.2]
  replace HB : Hid (Below w.heap.size w w1) := below_any HB.out hb1
  replace X2 : Hid (Box w1 w.heap.size 24 #[.int .i64 q, .slice ra sn rc]) := X2.out.below hb1 X2.out.lt
  replace LR : Hid (sgR.lies 0 w1 [.int .i64 q, .slice ra sn rc] s) := sgR.below LR.out hb1
  replace AV : Hid (Arg 0 w1 v b) := AV.out.below hb1
  have L1 : Hid (sgN.lies 0 w1 [.int .i64 q, .slice a1 sn c1] s) := sgN.weaken (sgN.olies hO1) (Nat.zero_le _)
  clear hO1 hL1 hI1 hb1 HC
  have HC := copy_any 0 v b w1 AV.out (by have := HFF.out.2; omega)
  go_wp2_with fail
  refine HC.mono ?_
  rintro e w2 ⟨⟨v2, rfl, hO2⟩, hb2⟩
  replace HB : Hid (Below w.heap.size w w2) := below_any HB.out hb2
  replace X2 : Hid (Box w2 w.heap.size 24 #[.int .i64 q, .slice ra sn rc]) := X2.out.below hb2 X2.out.lt
  replace LR : Hid (sgR.lies 0 w2 [.int .i64 q, .slice ra sn rc] s) := sgR.below LR.out hb2
  replace AV : Hid (Arg 0 w2 v b) := AV.out.below hb2
  replace L1 : Hid (sgN.lies 0 w2 [.int .i64 q, .slice a1 sn c1] s) := sgN.below L1.out hb2
  have A2 : Hid (Arg 0 w2 v2 b) := hO2.arg.weaken (Nat.zero_le _)
  clear hO2 hb2 HC
  obtain ⟨W3, hW⟩ : ∃ W, W = w2.alloc (.cells #[.int .i64 q, .slice a1 sn c1] 28) := ⟨_, rfl⟩
  have hb3 : Below w2.heap.size w2 W3 := by rw [hW]; exact (Below.refl _ _).alloc (Nat.le_refl _) _
  replace HB : Hid (Below w.heap.size w W3) := below_any HB.out hb3
  replace X2 : Hid (Box W3 w.heap.size 24 #[.int .i64 q, .slice ra sn rc]) := X2.out.below hb3 X2.out.lt
  replace LR : Hid (sgR.lies 0 W3 [.int .i64 q, .slice ra sn rc] s) := sgR.below LR.out hb3
  replace AV : Hid (Arg 0 W3 v b) := AV.out.below hb3
  replace L1 : Hid (sgN.lies 0 W3 [.int .i64 q, .slice a1 sn c1] s) := sgN.below L1.out hb3
  replace A2 : Hid (Arg 0 W3 v2 b) := A2.out.below hb3
  have X5 : Hid (Box W3 w2.heap.size 28 #[.int .i64 q, .slice a1 sn c1]) := by rw [hW]; exact Box.new _ _ _
  obtain ⟨g0, g1, -, -⟩ := X5.out.two
  rw [hW] at g0 g1
  have HC := seal_any _ _ s W3 L1.out
  rw [HCE.out] at HC
  clear hb3
  go_wp2_with fail
  rw [← hW]
  clear hW g0 g1
  refine HC.mono ?_
  rintro e w4 ⟨⟨v4, rfl, hO4⟩, hb4⟩
  replace HB : Hid (Below w.heap.size w w4) := below_any HB.out hb4
  replace X2 : Hid (Box w4 w.heap.size 24 #[.int .i64 q, .slice ra sn rc]) := X2.out.below hb4 X2.out.lt
  replace LR : Hid (sgR.lies 0 w4 [.int .i64 q, .slice ra sn rc] s) := sgR.below LR.out hb4
  replace AV : Hid (Arg 0 w4 v b) := AV.out.below hb4
  replace L1 : Hid (sgN.lies 0 w4 [.int .i64 q, .slice a1 sn c1] s) := sgN.below L1.out hb4
  replace A2 : Hid (Arg 0 w4 v2 b) := A2.out.below hb4
  replace X5 : Hid (Box w4 w2.heap.size 28 #[.int .i64 q, .slice a1 sn c1]) := X5.out.below hb4 X5.out.lt
  have A4 : Hid (Arg 0 w4 v4 (sealV s)) := hO4.arg.weaken (Nat.zero_le _)
  clear hO4 hb4 HC
  obtain ⟨g0, g1, -, -⟩ := X2.out.two
  have HC := rseal_any _ _ s w4 LR.out
  rw [HCE.out] at HC
  go_wp2_with fail
  clear g0 g1
  refine HC.mono ?_
  rintro e w5 ⟨⟨v5, rfl, hO5⟩, hb5⟩
  replace HB : Hid (Below w.heap.size w w5) := below_any HB.out hb5
  replace X2 : Hid (Box w5 w.heap.size 24 #[.int .i64 q, .slice ra sn rc]) := X2.out.below hb5 X2.out.lt
  replace LR : Hid (sgR.lies 0 w5 [.int .i64 q, .slice ra sn rc] s) := sgR.below LR.out hb5
  replace AV : Hid (Arg 0 w5 v b) := AV.out.below hb5
  replace L1 : Hid (sgN.lies 0 w5 [.int .i64 q, .slice a1 sn c1] s) := sgN.below L1.out hb5
  replace A2 : Hid (Arg 0 w5 v2 b) := A2.out.below hb5
  replace X5 : Hid (Box w5 w2.heap.size 28 #[.int .i64 q, .slice a1 sn c1]) := X5.out.below hb5 X5.out.lt
  replace A4 : Hid (Arg 0 w5 v4 (sealV s)) := A4.out.below hb5
  have A5 : Hid (Arg 0 w5 v5 (sealV s)) := hO5.arg.weaken (Nat.zero_le _)
  clear hO5 hb5 HC
  have HC := open_any 0 v2 b w5 A2.out
  rw [HOE.out] at HC
  go_wp2_with fail
  refine HC.mono ?_
  rintro e w6 ⟨⟨us6, rfl, hO6⟩, hb6⟩
  obtain ⟨a6, c6, rfl, -⟩ := sg_viewN hO6
  obtain ⟨q6, hq6⟩ : ∃ z, z = (oS b).1 := ⟨_, rfl⟩
  obtain ⟨n6, hn6⟩ : ∃ z, z = (oS b).2.length := ⟨_, rfl⟩
  have HQ6 : Hid (q6 = (oS b).1 ∧ n6 = (oS b).2.length) := ⟨hq6, hn6⟩
  rw [← hq6, ← hn6] at hO6
  rw [← hq6, ← hn6]
  replace HB : Hid (Below w.heap.size w w6) := below_any HB.out hb6
  replace X2 : Hid (Box w6 w.heap.size 24 #[.int .i64 q, .slice ra sn rc]) := X2.out.below hb6 X2.out.lt
  replace LR : Hid (sgR.lies 0 w6 [.int .i64 q, .slice ra sn rc] s) := sgR.below LR.out hb6
  replace AV : Hid (Arg 0 w6 v b) := AV.out.below hb6
  replace L1 : Hid (sgN.lies 0 w6 [.int .i64 q, .slice a1 sn c1] s) := sgN.below L1.out hb6
  replace A2 : Hid (Arg 0 w6 v2 b) := A2.out.below hb6
  replace X5 : Hid (Box w6 w2.heap.size 28 #[.int .i64 q, .slice a1 sn c1]) := X5.out.below hb6 X5.out.lt
  replace A4 : Hid (Arg 0 w6 v4 (sealV s)) := A4.out.below hb6
  replace A5 : Hid (Arg 0 w6 v5 (sealV s)) := A5.out.below hb6
  have L6 : Hid (sgN.lies 0 w6 [.int .i64 q6, .slice a6 n6 c6] (oS b)) := sgN.weaken hO6 (Nat.zero_le _)
  clear hO6 hb6 HC hq6 hn6
  obtain ⟨W7, hW⟩ : ∃ W, W = w6.alloc (.cells #[.int .i64 q6, .slice a6 n6 c6] 28) := ⟨_, rfl⟩
  have hb7 : Below w6.heap.size w6 W7 := by rw [hW]; exact (Below.refl _ _).alloc (Nat.le_refl _) _
  replace HB : Hid (Below w.heap.size w W7) := below_any HB.out hb7
  replace X2 : Hid (Box W7 w.heap.size 24 #[.int .i64 q, .slice ra sn rc]) := X2.out.below hb7 X2.out.lt
  replace LR : Hid (sgR.lies 0 W7 [.int .i64 q, .slice ra sn rc] s) := sgR.below LR.out hb7
  replace AV : Hid (Arg 0 W7 v b) := AV.out.below hb7
  replace L1 : Hid (sgN.lies 0 W7 [.int .i64 q, .slice a1 sn c1] s) := sgN.below L1.out hb7
  replace A2 : Hid (Arg 0 W7 v2 b) := A2.out.below hb7
  replace X5 : Hid (Box W7 w2.heap.size 28 #[.int .i64 q, .slice a1 sn c1]) := X5.out.below hb7 X5.out.lt
  replace A4 : Hid (Arg 0 W7 v4 (sealV s)) := A4.out.below hb7
  replace A5 : Hid (Arg 0 W7 v5 (sealV s)) := A5.out.below hb7
  replace L6 : Hid (sgN.lies 0 W7 [.int .i64 q6, .slice a6 n6 c6] (oS b)) := sgN.below L6.out hb7
  have X11 : Hid (Box W7 w6.heap.size 28 #[.int .i64 q6, .slice a6 n6 c6]) := by rw [hW]; exact Box.new _ _ _
  have HC := ropen_any 0 v b W7 AV.out
  rw [HOE.out] at HC
  clear hb7
  go_wp2_with fail
  rw [← hW]
  clear hW
  refine HC.mono ?_
  rintro e w8 ⟨⟨us8, rfl, hO8⟩, hb8⟩
  obtain ⟨a8, c8, rfl, -⟩ := sg_viewR hO8
  rw [← HQ6.out.1, ← HQ6.out.2] at hO8
  rw [← HQ6.out.1, ← HQ6.out.2]
  replace HB : Hid (Below w.heap.size w w8) := below_any HB.out hb8
  replace X2 : Hid (Box w8 w.heap.size 24 #[.int .i64 q, .slice ra sn rc]) := X2.out.below hb8 X2.out.lt
  replace LR : Hid (sgR.lies 0 w8 [.int .i64 q, .slice ra sn rc] s) := sgR.below LR.out hb8
  replace AV : Hid (Arg 0 w8 v b) := AV.out.below hb8
  replace L1 : Hid (sgN.lies 0 w8 [.int .i64 q, .slice a1 sn c1] s) := sgN.below L1.out hb8
  replace A2 : Hid (Arg 0 w8 v2 b) := A2.out.below hb8
  replace X5 : Hid (Box w8 w2.heap.size 28 #[.int .i64 q, .slice a1 sn c1]) := X5.out.below hb8 X5.out.lt
  replace A4 : Hid (Arg 0 w8 v4 (sealV s)) := A4.out.below hb8
  replace A5 : Hid (Arg 0 w8 v5 (sealV s)) := A5.out.below hb8
  replace L6 : Hid (sgN.lies 0 w8 [.int .i64 q6, .slice a6 n6 c6] (oS b)) := sgN.below L6.out hb8
  replace X11 : Hid (Box w8 w6.heap.size 28 #[.int .i64 q6, .slice a6 n6 c6]) := X11.out.below hb8 X11.out.lt
  have L8 : Hid (sgR.lies 0 w8 [.int .i64 q6, .slice a8 n6 c8] (oS b)) := sgR.weaken hO8 (Nat.zero_le _)
  clear hO8 hb8 HC
  obtain ⟨W9, hW⟩ : ∃ W, W = w8.alloc (.cells #[.int .i64 q6, .slice a8 n6 c8] 24) := ⟨_, rfl⟩
  have hb9 : Below w8.heap.size w8 W9 := by rw [hW]; exact (Below.refl _ _).alloc (Nat.le_refl _) _
  replace HB : Hid (Below w.heap.size w W9) := below_any HB.out hb9
  replace X2 : Hid (Box W9 w.heap.size 24 #[.int .i64 q, .slice ra sn rc]) := X2.out.below hb9 X2.out.lt
  replace LR : Hid (sgR.lies 0 W9 [.int .i64 q, .slice ra sn rc] s) := sgR.below LR.out hb9
  replace AV : Hid (Arg 0 W9 v b) := AV.out.below hb9
  replace L1 : Hid (sgN.lies 0 W9 [.int .i64 q, .slice a1 sn c1] s) := sgN.below L1.out hb9
  replace A2 : Hid (Arg 0 W9 v2 b) := A2.out.below hb9
  replace X5 : Hid (Box W9 w2.heap.size 28 #[.int .i64 q, .slice a1 sn c1]) := X5.out.below hb9 X5.out.lt
  replace A4 : Hid (Arg 0 W9 v4 (sealV s)) := A4.out.below hb9
  replace A5 : Hid (Arg 0 W9 v5 (sealV s)) := A5.out.below hb9
  replace L6 : Hid (sgN.lies 0 W9 [.int .i64 q6, .slice a6 n6 c6] (oS b)) := sgN.below L6.out hb9
  replace X11 : Hid (Box W9 w6.heap.size 28 #[.int .i64 q6, .slice a6 n6 c6]) := X11.out.below hb9 X11.out.lt
  replace L8 : Hid (sgR.lies 0 W9 [.int .i64 q6, .slice a8 n6 c8] (oS b)) := sgR.below L8.out hb9
  have X13 : Hid (Box W9 w8.heap.size 24 #[.int .i64 q6, .slice a8 n6 c8]) := by rw [hW]; exact Box.new _ _ _
  obtain ⟨g0, g1, -, -⟩ := X5.out.two
  rw [hW] at g0 g1
  have HC := owners_any _ _ s W9 L1.out
  rw [HCE.out] at HC
  clear hb9
  go_wp2_with fail
  rw [← hW]
  clear hW g0 g1
  refine HC.mono ?_
  rintro e w10 ⟨⟨v10, rfl, hO10⟩, hb10⟩
  replace HB : Hid (Below w.heap.size w w10) := below_any HB.out hb10
  replace X2 : Hid (Box w10 w.heap.size 24 #[.int .i64 q, .slice ra sn rc]) := X2.out.below hb10 X2.out.lt
  replace LR : Hid (sgR.lies 0 w10 [.int .i64 q, .slice ra sn rc] s) := sgR.below LR.out hb10
  replace AV : Hid (Arg 0 w10 v b) := AV.out.below hb10
  replace L1 : Hid (sgN.lies 0 w10 [.int .i64 q, .slice a1 sn c1] s) := sgN.below L1.out hb10
  replace A2 : Hid (Arg 0 w10 v2 b) := A2.out.below hb10
  replace X5 : Hid (Box w10 w2.heap.size 28 #[.int .i64 q, .slice a1 sn c1]) := X5.out.below hb10 X5.out.lt
  replace A4 : Hid (Arg 0 w10 v4 (sealV s)) := A4.out.below hb10
  replace A5 : Hid (Arg 0 w10 v5 (sealV s)) := A5.out.below hb10
  replace L6 : Hid (sgN.lies 0 w10 [.int .i64 q6, .slice a6 n6 c6] (oS b)) := sgN.below L6.out hb10
  replace X11 : Hid (Box w10 w6.heap.size 28 #[.int .i64 q6, .slice a6 n6 c6]) := X11.out.below hb10 X11.out.lt
  replace L8 : Hid (sgR.lies 0 w10 [.int .i64 q6, .slice a8 n6 c8] (oS b)) := sgR.below L8.out hb10
  replace X13 : Hid (Box w10 w8.heap.size 24 #[.int .i64 q6, .slice a8 n6 c8]) := X13.out.below hb10 X13.out.lt
  have A10 : Hid (OwnI W9.heap.size w10 v10 (owV s)) := hO10
  clear hO10 hb10 HC
  obtain ⟨g0, g1, -, -⟩ := X2.out.two
  have HC := rowners_any _ _ s w10 LR.out
  rw [HCE.out] at HC
  go_wp2_with fail
  clear g0 g1
  refine HC.mono ?_
  rintro e w11 ⟨⟨v11, rfl, hO11⟩, hb11⟩
  replace HB : Hid (Below w.heap.size w w11) := below_any HB.out hb11
  replace X2 : Hid (Box w11 w.heap.size 24 #[.int .i64 q, .slice ra sn rc]) := X2.out.below hb11 X2.out.lt
  replace LR : Hid (sgR.lies 0 w11 [.int .i64 q, .slice ra sn rc] s) := sgR.below LR.out hb11
  replace AV : Hid (Arg 0 w11 v b) := AV.out.below hb11
  replace L1 : Hid (sgN.lies 0 w11 [.int .i64 q, .slice a1 sn c1] s) := sgN.below L1.out hb11
  replace A2 : Hid (Arg 0 w11 v2 b) := A2.out.below hb11
  replace X5 : Hid (Box w11 w2.heap.size 28 #[.int .i64 q, .slice a1 sn c1]) := X5.out.below hb11 X5.out.lt
  replace A4 : Hid (Arg 0 w11 v4 (sealV s)) := A4.out.below hb11
  replace A5 : Hid (Arg 0 w11 v5 (sealV s)) := A5.out.below hb11
  replace L6 : Hid (sgN.lies 0 w11 [.int .i64 q6, .slice a6 n6 c6] (oS b)) := sgN.below L6.out hb11
  replace X11 : Hid (Box w11 w6.heap.size 28 #[.int .i64 q6, .slice a6 n6 c6]) := X11.out.below hb11 X11.out.lt
  replace L8 : Hid (sgR.lies 0 w11 [.int .i64 q6, .slice a8 n6 c8] (oS b)) := sgR.below L8.out hb11
  replace X13 : Hid (Box w11 w8.heap.size 24 #[.int .i64 q6, .slice a8 n6 c8]) := X13.out.below hb11 X13.out.lt
  replace A10 : Hid (OwnI W9.heap.size w11 v10 (owV s)) := A10.out.below hb11
  have A11 : Hid (OwnI w10.heap.size w11 v11 (owV s)) := hO11
  clear hO11 hb11 HC
  have HS : Hid (∀ U, Below w11.heap.size w11 U → U.cell? ⟨w.heap.size, 0, none⟩ = some (.int .i64 q) ∧ U.cell? ⟨w.heap.size, 1, none⟩ = some (.slice ra sn rc) ∧ U.cell? ⟨w2.heap.size, 0, none⟩ = some (.int .i64 q) ∧ U.cell? ⟨w2.heap.size, 1, none⟩ = some (.slice a1 sn c1) ∧ U.cell? ⟨w6.heap.size, 0, none⟩ = some (.int .i64 q6) ∧ U.cell? ⟨w6.heap.size, 1, none⟩ = some (.slice a6 n6 c6) ∧ U.cell? ⟨w8.heap.size, 0, none⟩ = some (.int .i64 q6) ∧ U.cell? ⟨w8.heap.size, 1, none⟩ = some (.slice a8 n6 c8)) := fun U hU => by
    obtain ⟨p0, p1, -, -⟩ := (X2.out.below hU X2.out.lt).two
    obtain ⟨p2, p3, -, -⟩ := (X5.out.below hU X5.out.lt).two
    obtain ⟨p4, p5, -, -⟩ := (X11.out.below hU X11.out.lt).two
    obtain ⟨p6, p7, -, -⟩ := (X13.out.below hU X13.out.lt).two
    exact ⟨p0, p1, p2, p3, p4, p5, p6, p7⟩
  go_wp2
  have hb : Below w11.heap.size w11 w11.drew := (Below.refl _ w11).drew
  refine AnyBut.begin (fun U => U.cell? ⟨w.heap.size, 0, none⟩ = some (.int .i64 q) ∧ U.cell? ⟨w.heap.size, 1, none⟩ = some (.slice ra sn rc) ∧ U.cell? ⟨w2.heap.size, 0, none⟩ = some (.int .i64 q) ∧ U.cell? ⟨w2.heap.size, 1, none⟩ = some (.slice a1 sn c1) ∧ U.cell? ⟨w6.heap.size, 0, none⟩ = some (.int .i64 q6) ∧ U.cell? ⟨w6.heap.size, 1, none⟩ = some (.slice a6 n6 c6) ∧ U.cell? ⟨w8.heap.size, 0, none⟩ = some (.int .i64 q6) ∧ U.cell? ⟨w8.heap.size, 1, none⟩ = some (.slice a8 n6 c8)) 1000 (by kernel_rfl) ?_
  have hSS := HS.out w11.drew hb
  refine tx 0 53 hSS ?_
  simp only [Go.Proofs.Ytmjgamokddedkaa.ua, Go.Proofs.Ytmjgamokddedkaa.ub, Go.Proofs.Ytmjgamokddedkaa.uc, Go.Proofs.Ytmjgamokddedkaa.ud]
  refine tx 1 54 hSS ?_
  simp only [Go.Proofs.Ytmjgamokddedkaa.ua, Go.Proofs.Ytmjgamokddedkaa.ub, Go.Proofs.Ytmjgamokddedkaa.uc, Go.Proofs.Ytmjgamokddedkaa.ud]
  refine AnyBut.step (i := 2) (by kernel_rfl) rfl (fun K hK => ?_)
  have HC0 := same_true (w11.drew) (A4.out.below hb) (A5.out.below hb)
  go_simp
  refine Calls.mono (HC0) ?_
  rintro e z0 ⟨rfl, hn0⟩
  have hz0 : Below w11.heap.size w11 z0 := below_any hb hn0
  dsimp only
  refine hK.out _ _ (HS.out z0 hz0) ?_
  clear hK hSS
  have hSS := HS.out z0 hz0
  clear HC0
  refine tx 3 56 hSS ?_
  simp only [Go.Proofs.Ytmjgamokddedkaa.ua, Go.Proofs.Ytmjgamokddedkaa.ub, Go.Proofs.Ytmjgamokddedkaa.uc, Go.Proofs.Ytmjgamokddedkaa.ud]
  refine tx 4 57 hSS ?_
  simp only [Go.Proofs.Ytmjgamokddedkaa.ua, Go.Proofs.Ytmjgamokddedkaa.ub, Go.Proofs.Ytmjgamokddedkaa.uc, Go.Proofs.Ytmjgamokddedkaa.ud]
  refine tx 6 59 hSS ?_
  simp only [Go.Proofs.Ytmjgamokddedkaa.ua, Go.Proofs.Ytmjgamokddedkaa.ub, Go.Proofs.Ytmjgamokddedkaa.uc, Go.Proofs.Ytmjgamokddedkaa.ud]
  refine AnyBut.step (i := 5) (by kernel_rfl) rfl (fun K hK => ?_)
  have HC1 := num_any ce (z0)
  go_simp
  refine Calls.mono (HC1) ?_
  rintro e wn ⟨rfl, rfl⟩
  dsimp only
  refine hK.out _ _ (HS.out z0 hz0) ?_
  clear hK hSS
  have hSS := HS.out z0 hz0
  clear HC1
  refine tx 7 60 hSS ?_
  simp only [Go.Proofs.Ytmjgamokddedkaa.ua, Go.Proofs.Ytmjgamokddedkaa.ub, Go.Proofs.Ytmjgamokddedkaa.uc, Go.Proofs.Ytmjgamokddedkaa.ud]
  refine tx 8 61 hSS ?_
  simp only [Go.Proofs.Ytmjgamokddedkaa.ua, Go.Proofs.Ytmjgamokddedkaa.ub, Go.Proofs.Ytmjgamokddedkaa.uc, Go.Proofs.Ytmjgamokddedkaa.ud]
  refine tx 9 62 hSS ?_
  simp only [Go.Proofs.Ytmjgamokddedkaa.ua, Go.Proofs.Ytmjgamokddedkaa.ub, Go.Proofs.Ytmjgamokddedkaa.uc, Go.Proofs.Ytmjgamokddedkaa.ud]
  refine tx 10 63 hSS ?_
  simp only [Go.Proofs.Ytmjgamokddedkaa.ua, Go.Proofs.Ytmjgamokddedkaa.ub, Go.Proofs.Ytmjgamokddedkaa.uc, Go.Proofs.Ytmjgamokddedkaa.ud]
  refine tx 11 64 hSS ?_
  simp only [Go.Proofs.Ytmjgamokddedkaa.ua, Go.Proofs.Ytmjgamokddedkaa.ub, Go.Proofs.Ytmjgamokddedkaa.uc, Go.Proofs.Ytmjgamokddedkaa.ud]
  refine AnyBut.step (i := 12) (by kernel_rfl) rfl (fun K hK => ?_)
  have HC2 := alike_any _ _ _ _ _ _ (z0) (sgN.below L6.out hz0) (sgR.below L8.out hz0)
  rw [if_pos rfl] at HC2
  go_simp
  refine Calls.mono (HC2) ?_
  rintro e z2 ⟨rfl, hn2⟩
  have hz2 : Below w11.heap.size w11 z2 := below_any hz0 hn2
  dsimp only
  refine hK.out _ _ (HS.out z2 hz2) ?_
  clear hK hSS
  have hSS := HS.out z2 hz2
  clear HC2
  refine tx 13 66 hSS ?_
  simp only [Go.Proofs.Ytmjgamokddedkaa.ua, Go.Proofs.Ytmjgamokddedkaa.ub, Go.Proofs.Ytmjgamokddedkaa.uc, Go.Proofs.Ytmjgamokddedkaa.ud]
  refine tx 14 67 hSS ?_
  simp only [Go.Proofs.Ytmjgamokddedkaa.ua, Go.Proofs.Ytmjgamokddedkaa.ub, Go.Proofs.Ytmjgamokddedkaa.uc, Go.Proofs.Ytmjgamokddedkaa.ud]
  refine tx 15 68 hSS ?_
  simp only [Go.Proofs.Ytmjgamokddedkaa.ua, Go.Proofs.Ytmjgamokddedkaa.ub, Go.Proofs.Ytmjgamokddedkaa.uc, Go.Proofs.Ytmjgamokddedkaa.ud]
  refine tx 16 69 hSS ?_
  simp only [Go.Proofs.Ytmjgamokddedkaa.ua, Go.Proofs.Ytmjgamokddedkaa.ub, Go.Proofs.Ytmjgamokddedkaa.uc, Go.Proofs.Ytmjgamokddedkaa.ud]
  refine tx 18 71 hSS ?_
  simp only [Go.Proofs.Ytmjgamokddedkaa.ua, Go.Proofs.Ytmjgamokddedkaa.ub, Go.Proofs.Ytmjgamokddedkaa.uc, Go.Proofs.Ytmjgamokddedkaa.ud]
  refine AnyBut.step (i := 17) (by kernel_rfl) rfl (fun K hK => ?_)
  have HC3 := num_any oe (z2)
  go_simp
  refine Calls.mono (HC3) ?_
  rintro e wn ⟨rfl, rfl⟩
  dsimp only
  refine hK.out _ _ (HS.out z2 hz2) ?_
  clear hK hSS
  have hSS := HS.out z2 hz2
  clear HC3
  refine tx 19 72 hSS ?_
  simp only [Go.Proofs.Ytmjgamokddedkaa.ua, Go.Proofs.Ytmjgamokddedkaa.ub, Go.Proofs.Ytmjgamokddedkaa.uc, Go.Proofs.Ytmjgamokddedkaa.ud]
  refine tx 20 73 hSS ?_
  simp only [Go.Proofs.Ytmjgamokddedkaa.ua, Go.Proofs.Ytmjgamokddedkaa.ub, Go.Proofs.Ytmjgamokddedkaa.uc, Go.Proofs.Ytmjgamokddedkaa.ud]
  refine tx 21 74 hSS ?_
  simp only [Go.Proofs.Ytmjgamokddedkaa.ua, Go.Proofs.Ytmjgamokddedkaa.ub, Go.Proofs.Ytmjgamokddedkaa.uc, Go.Proofs.Ytmjgamokddedkaa.ud]
  refine tx 22 75 hSS ?_
  simp only [Go.Proofs.Ytmjgamokddedkaa.ua, Go.Proofs.Ytmjgamokddedkaa.ub, Go.Proofs.Ytmjgamokddedkaa.uc, Go.Proofs.Ytmjgamokddedkaa.ud]
  refine tx 23 76 hSS ?_
  simp only [Go.Proofs.Ytmjgamokddedkaa.ua, Go.Proofs.Ytmjgamokddedkaa.ub, Go.Proofs.Ytmjgamokddedkaa.uc, Go.Proofs.Ytmjgamokddedkaa.ud]
  refine AnyBut.step (i := 24) (by kernel_rfl) rfl (fun K hK => ?_)
  have HC4 := sameI_true _ _ _ _ _ (z2) (A10.out.below hz2) (A11.out.below hz2)
  go_simp
  refine Calls.mono (HC4) ?_
  rintro e z4 ⟨rfl, hn4⟩
  have hz4 : Below w11.heap.size w11 z4 := below_any hz2 hn4
  dsimp only
  refine hK.out _ _ (HS.out z4 hz4) ?_
  clear hK hSS
  have hSS := HS.out z4 hz4
  clear HC4
  refine tx 25 78 hSS ?_
  simp only [Go.Proofs.Ytmjgamokddedkaa.ua, Go.Proofs.Ytmjgamokddedkaa.ub, Go.Proofs.Ytmjgamokddedkaa.uc, Go.Proofs.Ytmjgamokddedkaa.ud]
  refine tx 26 79 hSS ?_
  simp only [Go.Proofs.Ytmjgamokddedkaa.ua, Go.Proofs.Ytmjgamokddedkaa.ub, Go.Proofs.Ytmjgamokddedkaa.uc, Go.Proofs.Ytmjgamokddedkaa.ud]
  refine tx 27 80 hSS ?_
  simp only [Go.Proofs.Ytmjgamokddedkaa.ua, Go.Proofs.Ytmjgamokddedkaa.ub, Go.Proofs.Ytmjgamokddedkaa.uc, Go.Proofs.Ytmjgamokddedkaa.ud]
  refine tx 29 82 hSS ?_
  simp only [Go.Proofs.Ytmjgamokddedkaa.ua, Go.Proofs.Ytmjgamokddedkaa.ub, Go.Proofs.Ytmjgamokddedkaa.uc, Go.Proofs.Ytmjgamokddedkaa.ud]
  refine AnyBut.step (i := 28) (by kernel_rfl) rfl (fun K hK => ?_)
  have HC5 := num_any ce (z4)
  go_simp
  refine Calls.mono (HC5) ?_
  rintro e wn ⟨rfl, rfl⟩
  dsimp only
  refine hK.out _ _ (HS.out z4 hz4) ?_
  clear hK hSS
  have hSS := HS.out z4 hz4
  clear HC5
  refine tx 30 83 hSS ?_
  simp only [Go.Proofs.Ytmjgamokddedkaa.ua, Go.Proofs.Ytmjgamokddedkaa.ub, Go.Proofs.Ytmjgamokddedkaa.uc, Go.Proofs.Ytmjgamokddedkaa.ud]
  refine tx 31 84 hSS ?_
  simp only [Go.Proofs.Ytmjgamokddedkaa.ua, Go.Proofs.Ytmjgamokddedkaa.ub, Go.Proofs.Ytmjgamokddedkaa.uc, Go.Proofs.Ytmjgamokddedkaa.ud]
  refine tx 32 85 hSS ?_
  simp only [Go.Proofs.Ytmjgamokddedkaa.ua, Go.Proofs.Ytmjgamokddedkaa.ub, Go.Proofs.Ytmjgamokddedkaa.uc, Go.Proofs.Ytmjgamokddedkaa.ud]
  refine tx 33 86 hSS ?_
  simp only [Go.Proofs.Ytmjgamokddedkaa.ua, Go.Proofs.Ytmjgamokddedkaa.ub, Go.Proofs.Ytmjgamokddedkaa.uc, Go.Proofs.Ytmjgamokddedkaa.ud]
  refine tx 36 89 hSS ?_
  simp only [Go.Proofs.Ytmjgamokddedkaa.ua, Go.Proofs.Ytmjgamokddedkaa.ub, Go.Proofs.Ytmjgamokddedkaa.uc, Go.Proofs.Ytmjgamokddedkaa.ud]
  refine AnyBut.step (i := 34) (by kernel_rfl) rfl (fun K hK => ?_)
  have HC6 := check_any _ _ s (z4) (sgN.below L1.out hz4)
  rw [HCE.out] at HC6
  go_simp
  refine Calls.mono (HC6) ?_
  rintro e z6 ⟨rfl, hn6⟩
  have hz6 : Below w11.heap.size w11 z6 := below_any hz4 hn6
  dsimp only
  refine hK.out _ _ (HS.out z6 hz6) ?_
  clear hK hSS
  have hSS := HS.out z6 hz6
  clear HC6
  refine AnyBut.step (i := 35) (by kernel_rfl) rfl (fun K hK => ?_)
  have HC7 := num_any ce (z6)
  go_simp
  refine Calls.mono (HC7) ?_
  rintro e wn ⟨rfl, rfl⟩
  dsimp only
  refine hK.out _ _ (HS.out z6 hz6) ?_
  clear hK hSS
  have hSS := HS.out z6 hz6
  clear HC7
  refine AnyBut.step (i := 37) (by kernel_rfl) rfl (fun K hK => ?_)
  have HC8 := rcheck_any _ _ s (z6) (sgR.below LR.out hz6)
  rw [HCE.out] at HC8
  go_simp
  refine Calls.mono (HC8) ?_
  rintro e z8 ⟨rfl, hn8⟩
  have hz8 : Below w11.heap.size w11 z8 := below_any hz6 hn8
  dsimp only
  refine hK.out _ _ (HS.out z8 hz8) ?_
  clear hK hSS
  have hSS := HS.out z8 hz8
  clear HC8
  refine tx 38 91 hSS ?_
  simp only [Go.Proofs.Ytmjgamokddedkaa.ua, Go.Proofs.Ytmjgamokddedkaa.ub, Go.Proofs.Ytmjgamokddedkaa.uc, Go.Proofs.Ytmjgamokddedkaa.ud]
  refine tx 39 92 hSS ?_
  simp only [Go.Proofs.Ytmjgamokddedkaa.ua, Go.Proofs.Ytmjgamokddedkaa.ub, Go.Proofs.Ytmjgamokddedkaa.uc, Go.Proofs.Ytmjgamokddedkaa.ud]
  refine tx 40 93 hSS ?_
  simp only [Go.Proofs.Ytmjgamokddedkaa.ua, Go.Proofs.Ytmjgamokddedkaa.ub, Go.Proofs.Ytmjgamokddedkaa.uc, Go.Proofs.Ytmjgamokddedkaa.ud]
  refine tx 41 94 hSS ?_
  simp only [Go.Proofs.Ytmjgamokddedkaa.ua, Go.Proofs.Ytmjgamokddedkaa.ub, Go.Proofs.Ytmjgamokddedkaa.uc, Go.Proofs.Ytmjgamokddedkaa.ud]
  refine tx 42 95 hSS ?_
  simp only [Go.Proofs.Ytmjgamokddedkaa.ua, Go.Proofs.Ytmjgamokddedkaa.ub, Go.Proofs.Ytmjgamokddedkaa.uc, Go.Proofs.Ytmjgamokddedkaa.ud]
  refine AnyBut.step (i := 43) (by kernel_rfl) rfl (fun K hK => ?_)
  have HC9 := alike_any _ _ _ _ _ _ (z8) (sgN.below L1.out hz8) (sgR.below LR.out hz8)
  rw [if_pos rfl] at HC9
  go_simp
  refine Calls.mono (HC9) ?_
  rintro e z9 ⟨rfl, hn9⟩
  have hz9 : Below w11.heap.size w11 z9 := below_any hz8 hn9
  dsimp only
  refine hK.out _ _ (HS.out z9 hz9) ?_
  clear hK hSS
  have hSS := HS.out z9 hz9
  clear HC9
  refine tx 44 97 hSS ?_
  simp only [Go.Proofs.Ytmjgamokddedkaa.ua, Go.Proofs.Ytmjgamokddedkaa.ub, Go.Proofs.Ytmjgamokddedkaa.uc, Go.Proofs.Ytmjgamokddedkaa.ud]
  refine tx 45 98 hSS ?_
  simp only [Go.Proofs.Ytmjgamokddedkaa.ua, Go.Proofs.Ytmjgamokddedkaa.ub, Go.Proofs.Ytmjgamokddedkaa.uc, Go.Proofs.Ytmjgamokddedkaa.ud]
  refine tx 46 99 hSS ?_
  simp only [Go.Proofs.Ytmjgamokddedkaa.ua, Go.Proofs.Ytmjgamokddedkaa.ub, Go.Proofs.Ytmjgamokddedkaa.uc, Go.Proofs.Ytmjgamokddedkaa.ud]
  refine tx 47 100 hSS ?_
  simp only [Go.Proofs.Ytmjgamokddedkaa.ua, Go.Proofs.Ytmjgamokddedkaa.ub, Go.Proofs.Ytmjgamokddedkaa.uc, Go.Proofs.Ytmjgamokddedkaa.ud]
  refine tx 48 101 hSS ?_
  simp only [Go.Proofs.Ytmjgamokddedkaa.ua, Go.Proofs.Ytmjgamokddedkaa.ub, Go.Proofs.Ytmjgamokddedkaa.uc, Go.Proofs.Ytmjgamokddedkaa.ud]
  refine AnyBut.step (i := 49) (by kernel_rfl) rfl (fun K hK => ?_)
  have HC10 := same_true (z9) (A2.out.below hz9) (AV.out.below hz9)
  go_simp
  refine Calls.mono (HC10) ?_
  rintro e z10 ⟨rfl, hn10⟩
  have hz10 : Below w11.heap.size w11 z10 := below_any hz9 hn10
  dsimp only
  refine hK.out _ _ (HS.out z10 hz10) ?_
  clear hK hSS
  have hSS := HS.out z10 hz10
  clear HC10
  refine tx 50 103 hSS ?_
  simp only [Go.Proofs.Ytmjgamokddedkaa.ua, Go.Proofs.Ytmjgamokddedkaa.ub, Go.Proofs.Ytmjgamokddedkaa.uc, Go.Proofs.Ytmjgamokddedkaa.ud]
  refine tx 51 104 hSS ?_
  simp only [Go.Proofs.Ytmjgamokddedkaa.ua, Go.Proofs.Ytmjgamokddedkaa.ub, Go.Proofs.Ytmjgamokddedkaa.uc, Go.Proofs.Ytmjgamokddedkaa.ud]
  refine AnyBut.step (i := 52) (by kernel_rfl) rfl (fun K hK => ?_)
  have HC11 := alive_any (z10)
  go_simp
  refine Calls.mono (HC11) ?_
  rintro e z11 ⟨rfl, hn11⟩
  have hz11 : Below w11.heap.size w11 z11 := below_any hz10 hn11
  dsimp only
  refine hK.out _ _ (HS.out z11 hz11) ?_
  clear hK hSS
  have hSS := HS.out z11 hz11
  clear HC11
  refine tx 53 106 hSS ?_
  simp only [Go.Proofs.Ytmjgamokddedkaa.ua, Go.Proofs.Ytmjgamokddedkaa.ub, Go.Proofs.Ytmjgamokddedkaa.uc, Go.Proofs.Ytmjgamokddedkaa.ud]
  refine tx 54 4 hSS ?_
  simp only [Go.Proofs.Ytmjgamokddedkaa.ua, Go.Proofs.Ytmjgamokddedkaa.ub, Go.Proofs.Ytmjgamokddedkaa.uc, Go.Proofs.Ytmjgamokddedkaa.ud]
  refine AnyBut.done (by kernel_rfl) ?_
  have HFIN : Hid (Below w.heap.size w z11) := below_any HB.out hz11
  clear hSS HS
  go_wp2
  go_ret
  exact ⟨rfl, HFIN.out⟩

set_option maxRecDepth 100000 in
theorem lifted (os : Os) (started : os.Started) (H : Type) (enc : TypeId × Value → H) :
    ReturnsInHanded {} Try.checked os 3 .any (Rows.segmentTellsSpec.pre6 enc Try.prog Try.f3 Rows.segmentTellsRow.domain false) (Rows.segmentTellsSpec.post enc Try.prog Try.f3 false true false false) := by
  refine returnsInHanded_of_change_sized (C := Try.checked) own started (by kernel_rfl) Try.func3
    (ChangeSpec.witness6 (enc := enc) (C := Try.checked) false ⟨#[], #[.agg #[.int .i64 0, .slice none 0 0], .slice none 0 0], []⟩ 8 (by kernel_rfl) (by kernel_rfl) (by kernel_rfl) (by kernel_rfl)) ?_
  intro W base args ds gs before hval0 hW hcnd hsz0 _
  have hval : ∀ (j : Nat) t v, Try.f3.params[j]? = some t → args[j]? = some v → Value.okWide Try.prog W .any base t v := hval0
  have hW' := hW
  obtain ⟨p, q, hA0, hV, rfl, hfz, hnd⟩ := hW
  have hA : DataW.TrodAll enc Try.prog W 0 (fun _ => true) true Try.f3.params.toList args.toList ds p := hA0
  have hsz : (DataW.weightsEach Try.prog (Try.f3.params.toList ++ Rows.segmentTellsSpec.plain.varTypes Try.prog) (ds ++ gs)).all (· ≤ reachBytes) = true := hsz0
  clear hsz0
  rw [Try.params3] at hA hval hsz
  obtain ⟨v0, vs0, d0, ds0, p0, q0, hargs, rfl, rfl, h0, r0⟩ := trodAll_cons hA
  obtain ⟨v1, vs1, d1, ds1, p1, q1, rfl, rfl, rfl, h1, r1⟩ := trodAll_cons r0
  obtain ⟨rfl, rfl, rfl⟩ := trodAll_nil r1
  obtain rfl : args = #[v0, v1] := by cases args; simp_all
  obtain ⟨rfl, rfl⟩ := trodVars_none hV
  obtain ⟨cs0, rfl, hc0⟩ := okWide_struct Try.underlying24 (hval 0 24 v0 rfl rfl)
  obtain ⟨us0, rfl⟩ := as_list cs0
  have k0 := h0
  have lt0 : ∀ x ∈ p0, x.block < W.heap.size := by obtain ⟨m, hm⟩ := k0; exact DataW.trod_lt m _ _ _ hm
  obtain ⟨m0, hm0⟩ := h0
  obtain ⟨s0, A0, F0'⟩ := sgR.reads hm0
  have F0 := F0' fun n hn => by have := List.all_eq_true.1 hsz _ (DataW.weights_mem_each (j := 0) rfl rfl n hn); simpa using this
  obtain ⟨x1, len1, cap1, rfl⟩ := okWide_slice Try.underlying25 (hval 1 25 v1 rfl rfl)
  have k1 := h1
  have lt1 : ∀ x ∈ p1, x.block < W.heap.size := by obtain ⟨m, hm⟩ := k1; exact DataW.trod_lt m _ _ _ hm
  obtain ⟨m1, hm1⟩ := h1
  obtain ⟨s1, A1, F1'⟩ := bytesS.reads hm1
  have F1 := F1' fun n hn => by have := List.all_eq_true.1 hsz _ (DataW.weights_mem_each (j := 1) rfl rfl n hn); simpa using this
  clear hA0 hval0
  refine (walk 0 0 us0 s0 _ s1 W A0 (fits_of F0) A1 (by have h5 : s1.length * Try.prog.bytesOf 5 ≤ 140737488351232 := F1; rw [show Try.prog.bytesOf 5 = 1 by kernel_rfl] at h5; omega)).mono fun e W' ⟨he, bel⟩ => ?_
  subst he
  exact ⟨_, rfl, _, _, _, [], _, [], hW', trodAll_mk1 (shut_bool Try.underlying4 _), (trodAll_cons_mk (Below.trod laidOut (by kernel_rfl) (of_decide_eq_true (by kernel_rfl)) k0 bel lt0) (trodAll_cons_mk (Below.trod laidOut (by kernel_rfl) (of_decide_eq_true (by kernel_rfl)) k1 bel lt1) trodAll_mk0)), rfl, bel.frame _, fun h => by cases h⟩

theorem over : Rows.segmentTellsRow.holds Try.pinned (OpenSpec.ofChange Rows.segmentTellsSpec) :=
  OpenClaim.holds_of_wide 3 Try.f3 rfl rfl rfl rfl rfl rfl rfl ⟨rfl, rfl, rfl, rfl, rfl⟩ rfl rfl rfl rfl rfl (by kernel_rfl) Try.func3 (by kernel_rfl)
    (of_decide_eq_true (by kernel_rfl)) (by unfold Func.isWrapper; first | (rw [if_pos (by decide +kernel)]; kernel_rfl) | (rw [if_neg (by decide +kernel)]; exact ⟨rfl, rfl⟩))
    (fun os started H enc _ => lifted os started H enc)

end Go.Proofs.Ytmjgamokddedkaa.segmentTells

namespace Go.Proofs.Ytmjgamokddedkaa
theorem segmentTells_holds : Rows.SegmentTellsSaid := segmentTells.over
#print axioms segmentTells_holds
end Go.Proofs.Ytmjgamokddedkaa
