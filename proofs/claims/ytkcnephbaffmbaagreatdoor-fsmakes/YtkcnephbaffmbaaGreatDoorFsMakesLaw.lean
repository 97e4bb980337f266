/-
  FsMakes, proved: for every state of the document and every path (as great as the form reads them): the call returns true, and changes nothing that was in memory; the one listed variable (the handle of the type of errors) starts as the program's text lays it, which the card ties.
-/
import Derived.Test.YtkcnephbaffmbaaGreatDoorN48
import Derived.Test.YtkcnephbaffmbaaGreatDoorCards
import Derived.Test.YtkcnephbaffmbaaGreatDoorTie
import Derived.Deep.DeepHandedRow
import Derived.ChangeMaps5
set_option maxRecDepth 100000
set_option maxHeartbeats 32000000
namespace Go.Proofs.YtkcnephbaffmbaaGreatDoor.fsMakes
open Go.ChangeShapes Go.WideShapes Go.ChangeAt Go.RowKit Go.ChangeMaps
open P (serr sval)
set_option linter.unusedVariables false
theorem found_one {s : St} {p : ByteArray} {i k i2 k2 : Int} (h : Found s p i k) (h2 : Found s p i2 k2) : i = i2 ∧ k = k2 := by
 rcases h with ⟨a, b, c⟩ | ⟨a, b, c, d⟩ | ⟨a, b, c, d⟩ <;> rcases h2 with ⟨a2, b2, c2⟩ | ⟨a2, b2, c2, d2⟩ | ⟨a2, b2, c2, d2⟩
 all_goals first
   | exact absurd a2 a
   | exact absurd a a2
   | exact absurd b b2
   | exact absurd b2 b
   | exact ⟨by rw [b, b2], by rw [c, c2]⟩
   | exact ⟨by rw [c, c2], by rw [d, d2]⟩
theorem walk (us : List Value) (s : St) (p : ByteArray) (w : World) (hA : stR.lies 0 w us s) (hF : FitsS s.1) (hp : p.size ≤ maxLen) (hg : Glob w) :
   Calls Tryz.prog 3 #[.agg us.toArray, .string p] w fun e w' => e = .returned (.bool true) ∧ Below w.heap.size w w' := by
 obtain ⟨a, c, rfl, hs, hI, hm⟩ := st_viewR hA
 obtain ⟨l, nx⟩ := s
 simp only at hs hI hm hF ⊢
 obtain ⟨n, hn⟩ := exa (l.length)
 have HRD : Hid (∀ V, Below w.heap.size w V → (Calls Tryz.prog 11 #[.agg #[.slice a n c, .int .i64 nx], .string p] V fun e w' => (∃ i k, e = .returned (.tuple #[.int .i64 i, .int .i64 k]) ∧ Found (l, nx) p i k) ∧ Below V.heap.size V w') ∧
     (Calls Tryz.prog 13 #[.agg #[.slice a n c, .int .i64 nx], .string p] V (FlatR w.heap.size (Told (l, nx) [p] (mkE (l, nx) (sval p)) (mkN (l, nx) (hold (l, nx) (sval p)) (lst (sval p)) false)) V)) ∧
     (Calls Tryz.prog 15 #[.agg #[.slice a n c, .int .i64 nx], .string p] V (FlatR w.heap.size (Told (l, nx) [p] (mkE (l, nx) (sval p)) (mkN (l, nx) (hold (l, nx) (sval p)) (lst (sval p)) true)) V)) ∧
     (Calls Tryz.prog 17 #[.agg #[.slice a n c, .int .i64 nx], .string p] V (FlatR w.heap.size (Told (l, nx) [p] (filE l (sval p)) (dropN (l, nx) (hold (l, nx) (sval p)) (lst (sval p)) (tgt (l, nx) (sval p)))) V)) ∧
     (Calls Tryz.prog 19 #[.agg #[.slice a n c, .int .i64 nx], .string p] V (FlatR w.heap.size (Told (l, nx) [p] (rmE (l, nx) (sval p)) (dropN (l, nx) (hold (l, nx) (sval p)) (lst (sval p)) (tgt (l, nx) (sval p)))) V)) ∧
     (Calls Tryz.prog 23 #[.agg #[.slice a n c, .int .i64 nx]] V fun e w' => (∃ r : Int, e = .returned (.int .i64 r) ∧ ((Ok (l, nx) ∧ r = 0) ∨ (¬ Ok (l, nx) ∧ r = 9))) ∧ Below V.heap.size V w')) := fun V hV => by
   rw [hn]
   exact ⟨rfind10_any 0 a c (l, nx) p V (ndsR.below hs hV) hF, rCreate_any 0 w a c (l, nx) p V hV hs hF, rMkdir_any 0 w a c (l, nx) p V hV hs hF, rUnlink_any 0 w a c (l, nx) p V hV hs hF, rRmdir_any 0 w a c (l, nx) p V hV hs hF, rcheck10_any 0 a c (l, nx) V (ndsR.below hs hV) hF⟩
 rw [← hn] at hs hm ⊢
 unfold maxLen at hm
 have HG : Hid (∀ V, Below w.heap.size w V → Glob V) := fun V hV => hg.below hV hg.lt
 have H0 : Hid (ndsR.lies 0 w [.slice a n c] l ∧ n = l.length ∧ FitsS l ∧ p.size ≤ maxLen) := ⟨hs, hn, hF, hp⟩
 obtain ⟨kc, hkc⟩ : ∃ kc : Int, (Ok (l, nx) ∧ kc = 0) ∨ (¬ Ok (l, nx) ∧ kc = 9) := by (
 by_cases h : Ok (l, nx)
 · exact ⟨0, .inl ⟨h, rfl⟩⟩
 · exact ⟨9, .inr ⟨h, rfl⟩⟩)
 have HKC : Hid (∀ r : Int, ((Ok (l, nx) ∧ r = 0) ∨ (¬ Ok (l, nx) ∧ r = 9)) → r = kc) := fun r hr => by (
 rcases hkc with ⟨h1, h2⟩ | ⟨h1, h2⟩ <;> rcases hr with ⟨h3, h4⟩ | ⟨h3, h4⟩
 · rw [h2, h4]
 · exact absurd h1 h3
 · exact absurd h3 h1
 · rw [h2, h4])
 obtain ⟨V0, hV0⟩ := exa (w.alloc (.cells #[.slice a n c, .int .i64 nx] 24))
 have HB0 : Hid (Below w.heap.size w V0 ∧ Box V0 w.heap.size 24 #[.slice a n c, .int .i64 nx]) := ⟨by rw [hV0]; exact (Below.refl _ w).alloc (Nat.le_refl _) _, by rw [hV0]; exact Box.new _ _ _⟩
 clear hA hs hn hF hp hI hg hkc
 have HC1 := of_f (nx := nx) H0.out.2.1 (ndsR.below H0.out.1 HB0.out.1) H0.out.2.2.1
 go_enter Tryz.func3, Tryz.ntmps3
 obtain ⟨b0c0, b0c1, -, -⟩ := HB0.out.2.two
 rw [hV0] at b0c0 b0c1
 go_wp2_with fail
 rw [← hV0]
 clear b0c0 b0c1 hV0
 refine HC1.mono ?_
 rintro e w1 ⟨⟨a1, c1, rfl, ho1⟩, hb1⟩
 obtain ⟨V1, hV1⟩ := exa (w1.alloc (.cells #[.slice a1 n c1, .int .i64 nx] 27))
 have hbV1 : Below w1.heap.size w1 V1 := by rw [hV1]; exact (Below.refl _ w1).alloc (Nat.le_refl _) _
 have HB1 : Hid (Below V0.heap.size V0 V1 ∧ Box V1 w1.heap.size 27 #[.slice a1 n c1, .int .i64 nx] ∧ ndsN.lies V0.heap.size V1 [.slice a1 n c1] l) := ⟨below_any hb1 hbV1, by rw [hV1]; exact Box.new _ _ _, ndsN.below (ndsN.olies ho1) hbV1⟩
 clear hb1 hbV1 ho1 HC1
 have HC2 := find_f (nx := nx) H0.out.2.1 H0.out.2.2.2 (ndsN.below HB1.out.2.2 (Below.refl _ V1)) (HG.out _ (below_any HB0.out.1 HB1.out.1))
 obtain ⟨b1c0, b1c1, -, -⟩ := HB1.out.2.1.two
 rw [hV1] at b1c0 b1c1
 go_wp2_with fail
 rw [← hV1]
 clear b1c0 b1c1 hV1
 refine HC2.mono ?_
 rintro e w2 ⟨⟨i2, k2, rfl, hf2⟩, hb2⟩
 have HL2 : Hid (Below V1.heap.size V1 w2 ∧ Found (l, nx) p i2 k2) := ⟨hb2, hf2⟩
 clear hb2 hf2 HC2
 have HC3 := (HRD.out w2 (below_any (below_any HB0.out.1 HB1.out.1) HL2.out.1)).1
 obtain ⟨b0c0, b0c1, -, -⟩ := ((HB0.out.2).below (below_any HB1.out.1 HL2.out.1) (HB0.out.2).lt).two
 go_wp2_with fail
 clear b0c0 b0c1
 refine HC3.mono ?_
 rintro e w3 ⟨⟨i3, k3, rfl, hf3⟩, hb3⟩
 obtain ⟨rfl, rfl⟩ := found_one HL2.out.2 hf3
 have HL3 : Hid (Below w2.heap.size w2 w3) := hb3
 clear hb3 hf3 HC3
 have HC4 := create_f (nx := nx) H0.out.2.1 H0.out.2.2.2 (ndsN.below HB1.out.2.2 (below_any HL2.out.1 HL3.out)) (HG.out _ (below_any (below_any (below_any HB0.out.1 HB1.out.1) HL2.out.1) HL3.out))
 obtain ⟨b1c0, b1c1, -, -⟩ := ((HB1.out.2.1).below (below_any HL2.out.1 HL3.out) (HB1.out.2.1).lt).two
 go_wp2_with fail
 clear b1c0 b1c1
 refine HC4.mono ?_
 rintro e w4 ⟨⟨k4, l4, x4, n4, a4, c4, rfl, hn4, hl4, ht4⟩, hb4⟩
 obtain ⟨V4, hV4⟩ := exa (w4.alloc (.cells #[.slice a4 n4 c4, .int .i64 x4] 27))
 have hbV4 : Below w4.heap.size w4 V4 := by rw [hV4]; exact (Below.refl _ w4).alloc (Nat.le_refl _) _
 have HB4 : Hid (Below w3.heap.size w3 V4 ∧ Box V4 w4.heap.size 27 #[.slice a4 n4 c4, .int .i64 x4] ∧ ndsN.lies w3.heap.size V4 [.slice a4 n4 c4] l4 ∧ n4 = l4.length ∧ Told (l, nx) [p] (mkE (l, nx) (sval p)) (mkN (l, nx) (hold (l, nx) (sval p)) (lst (sval p)) false) k4 (l4, x4)) := ⟨below_any hb4 hbV4, by rw [hV4]; exact Box.new _ _ _, ndsN.below hl4 hbV4, hn4, ht4⟩
 clear hb4 hbV4 hl4 hn4 ht4 HC4
 have HC5 := (HRD.out V4 (below_any (below_any (below_any (below_any HB0.out.1 HB1.out.1) HL2.out.1) HL3.out) HB4.out.1)).2.1
 obtain ⟨b0c0, b0c1, -, -⟩ := ((HB0.out.2).below (below_any (below_any (below_any HB1.out.1 HL2.out.1) HL3.out) HB4.out.1) (HB0.out.2).lt).two
 rw [hV4] at b0c0 b0c1
 go_wp2_with fail
 rw [← hV4]
 clear b0c0 b0c1 hV4
 refine HC5.mono ?_
 rintro e w5 ⟨⟨k5, l5, x5, n5, a5, c5, rfl, hn5, hl5, ht5⟩, hb5⟩
 obtain ⟨rfl, heq5⟩ := HB4.out.2.2.2.2.one ht5
 obtain ⟨e1, e2⟩ := Prod.mk.inj heq5
 subst e1 e2
 have hl5 := hl5.lie
 obtain ⟨V5, hV5⟩ := exa (w5.alloc (.cells #[.slice a5 n5 c5, .int .i64 x4] 24))
 have hbV5 : Below w5.heap.size w5 V5 := by rw [hV5]; exact (Below.refl _ w5).alloc (Nat.le_refl _) _
 have HB5 : Hid (Below V4.heap.size V4 V5 ∧ Box V5 w5.heap.size 24 #[.slice a5 n5 c5, .int .i64 x4] ∧ ndsR.lies 0 V5 [.slice a5 n5 c5] l4 ∧ n5 = l4.length) := ⟨below_any hb5 hbV5, by rw [hV5]; exact Box.new _ _ _, ndsR.below hl5 hbV5, hn5⟩
 clear hb5 hbV5 hl5 hn5 ht5 HC5 heq5
 have HC6 := mkdir_f (nx := nx) H0.out.2.1 H0.out.2.2.2 (ndsN.below HB1.out.2.2 (below_any (below_any (below_any HL2.out.1 HL3.out) HB4.out.1) HB5.out.1)) (HG.out _ (below_any (below_any (below_any (below_any (below_any HB0.out.1 HB1.out.1) HL2.out.1) HL3.out) HB4.out.1) HB5.out.1))
 obtain ⟨b1c0, b1c1, -, -⟩ := ((HB1.out.2.1).below (below_any (below_any (below_any HL2.out.1 HL3.out) HB4.out.1) HB5.out.1) (HB1.out.2.1).lt).two
 rw [hV5] at b1c0 b1c1
 go_wp2_with fail
 rw [← hV5]
 clear b1c0 b1c1 hV5
 refine HC6.mono ?_
 rintro e w6 ⟨⟨k6, l6, x6, n6, a6, c6, rfl, hn6, hl6, ht6⟩, hb6⟩
 obtain ⟨V6, hV6⟩ := exa (w6.alloc (.cells #[.slice a6 n6 c6, .int .i64 x6] 27))
 have hbV6 : Below w6.heap.size w6 V6 := by rw [hV6]; exact (Below.refl _ w6).alloc (Nat.le_refl _) _
 have HB6 : Hid (Below V5.heap.size V5 V6 ∧ Box V6 w6.heap.size 27 #[.slice a6 n6 c6, .int .i64 x6] ∧ ndsN.lies V5.heap.size V6 [.slice a6 n6 c6] l6 ∧ n6 = l6.length ∧ Told (l, nx) [p] (mkE (l, nx) (sval p)) (mkN (l, nx) (hold (l, nx) (sval p)) (lst (sval p)) true) k6 (l6, x6)) := ⟨below_any hb6 hbV6, by rw [hV6]; exact Box.new _ _ _, ndsN.below hl6 hbV6, hn6, ht6⟩
 clear hb6 hbV6 hl6 hn6 ht6 HC6
 have HC7 := (HRD.out V6 (below_any (below_any (below_any (below_any (below_any (below_any HB0.out.1 HB1.out.1) HL2.out.1) HL3.out) HB4.out.1) HB5.out.1) HB6.out.1)).2.2.1
 obtain ⟨b0c0, b0c1, -, -⟩ := ((HB0.out.2).below (below_any (below_any (below_any (below_any (below_any HB1.out.1 HL2.out.1) HL3.out) HB4.out.1) HB5.out.1) HB6.out.1) (HB0.out.2).lt).two
 rw [hV6] at b0c0 b0c1
 go_wp2_with fail
 rw [← hV6]
 clear b0c0 b0c1 hV6
 refine HC7.mono ?_
 rintro e w7 ⟨⟨k7, l7, x7, n7, a7, c7, rfl, hn7, hl7, ht7⟩, hb7⟩
 obtain ⟨rfl, heq7⟩ := HB6.out.2.2.2.2.one ht7
 obtain ⟨e1, e2⟩ := Prod.mk.inj heq7
 subst e1 e2
 have hl7 := hl7.lie
 obtain ⟨V7, hV7⟩ := exa (w7.alloc (.cells #[.slice a7 n7 c7, .int .i64 x6] 24))
 have hbV7 : Below w7.heap.size w7 V7 := by rw [hV7]; exact (Below.refl _ w7).alloc (Nat.le_refl _) _
 have HB7 : Hid (Below V6.heap.size V6 V7 ∧ Box V7 w7.heap.size 24 #[.slice a7 n7 c7, .int .i64 x6] ∧ ndsR.lies 0 V7 [.slice a7 n7 c7] l6 ∧ n7 = l6.length) := ⟨below_any hb7 hbV7, by rw [hV7]; exact Box.new _ _ _, ndsR.below hl7 hbV7, hn7⟩
 clear hb7 hbV7 hl7 hn7 ht7 HC7 heq7
 have HC8 := unlink_f (nx := nx) H0.out.2.1 H0.out.2.2.2 (ndsN.below HB1.out.2.2 (below_any (below_any (below_any (below_any (below_any HL2.out.1 HL3.out) HB4.out.1) HB5.out.1) HB6.out.1) HB7.out.1)) (HG.out _ (below_any (below_any (below_any (below_any (below_any (below_any (below_any HB0.out.1 HB1.out.1) HL2.out.1) HL3.out) HB4.out.1) HB5.out.1) HB6.out.1) HB7.out.1))
 obtain ⟨b1c0, b1c1, -, -⟩ := ((HB1.out.2.1).below (below_any (below_any (below_any (below_any (below_any HL2.out.1 HL3.out) HB4.out.1) HB5.out.1) HB6.out.1) HB7.out.1) (HB1.out.2.1).lt).two
 rw [hV7] at b1c0 b1c1
 go_wp2_with fail
 rw [← hV7]
 clear b1c0 b1c1 hV7
 refine HC8.mono ?_
 rintro e w8 ⟨⟨k8, l8, x8, n8, a8, c8, rfl, hn8, hl8, ht8⟩, hb8⟩
 obtain ⟨V8, hV8⟩ := exa (w8.alloc (.cells #[.slice a8 n8 c8, .int .i64 x8] 27))
 have hbV8 : Below w8.heap.size w8 V8 := by rw [hV8]; exact (Below.refl _ w8).alloc (Nat.le_refl _) _
 have HB8 : Hid (Below V7.heap.size V7 V8 ∧ Box V8 w8.heap.size 27 #[.slice a8 n8 c8, .int .i64 x8] ∧ ndsN.lies V7.heap.size V8 [.slice a8 n8 c8] l8 ∧ n8 = l8.length ∧ Told (l, nx) [p] (filE l (sval p)) (dropN (l, nx) (hold (l, nx) (sval p)) (lst (sval p)) (tgt (l, nx) (sval p))) k8 (l8, x8)) := ⟨below_any hb8 hbV8, by rw [hV8]; exact Box.new _ _ _, ndsN.below hl8 hbV8, hn8, ht8⟩
 clear hb8 hbV8 hl8 hn8 ht8 HC8
 have HC9 := (HRD.out V8 (below_any (below_any (below_any (below_any (below_any (below_any (below_any (below_any HB0.out.1 HB1.out.1) HL2.out.1) HL3.out) HB4.out.1) HB5.out.1) HB6.out.1) HB7.out.1) HB8.out.1)).2.2.2.1
 obtain ⟨b0c0, b0c1, -, -⟩ := ((HB0.out.2).below (below_any (below_any (below_any (below_any (below_any (below_any (below_any HB1.out.1 HL2.out.1) HL3.out) HB4.out.1) HB5.out.1) HB6.out.1) HB7.out.1) HB8.out.1) (HB0.out.2).lt).two
 rw [hV8] at b0c0 b0c1
 go_wp2_with fail
 rw [← hV8]
 clear b0c0 b0c1 hV8
 refine HC9.mono ?_
 rintro e w9 ⟨⟨k9, l9, x9, n9, a9, c9, rfl, hn9, hl9, ht9⟩, hb9⟩
 obtain ⟨rfl, heq9⟩ := HB8.out.2.2.2.2.one ht9
 obtain ⟨e1, e2⟩ := Prod.mk.inj heq9
 subst e1 e2
 have hl9 := hl9.lie
 obtain ⟨V9, hV9⟩ := exa (w9.alloc (.cells #[.slice a9 n9 c9, .int .i64 x8] 24))
 have hbV9 : Below w9.heap.size w9 V9 := by rw [hV9]; exact (Below.refl _ w9).alloc (Nat.le_refl _) _
 have HB9 : Hid (Below V8.heap.size V8 V9 ∧ Box V9 w9.heap.size 24 #[.slice a9 n9 c9, .int .i64 x8] ∧ ndsR.lies 0 V9 [.slice a9 n9 c9] l8 ∧ n9 = l8.length) := ⟨below_any hb9 hbV9, by rw [hV9]; exact Box.new _ _ _, ndsR.below hl9 hbV9, hn9⟩
 clear hb9 hbV9 hl9 hn9 ht9 HC9 heq9
 have HC10 := rmdir_f (nx := nx) H0.out.2.1 H0.out.2.2.2 (ndsN.below HB1.out.2.2 (below_any (below_any (below_any (below_any (below_any (below_any (below_any HL2.out.1 HL3.out) HB4.out.1) HB5.out.1) HB6.out.1) HB7.out.1) HB8.out.1) HB9.out.1)) (HG.out _ (below_any (below_any (below_any (below_any (below_any (below_any (below_any (below_any (below_any HB0.out.1 HB1.out.1) HL2.out.1) HL3.out) HB4.out.1) HB5.out.1) HB6.out.1) HB7.out.1) HB8.out.1) HB9.out.1))
 obtain ⟨b1c0, b1c1, -, -⟩ := ((HB1.out.2.1).below (below_any (below_any (below_any (below_any (below_any (below_any (below_any HL2.out.1 HL3.out) HB4.out.1) HB5.out.1) HB6.out.1) HB7.out.1) HB8.out.1) HB9.out.1) (HB1.out.2.1).lt).two
 rw [hV9] at b1c0 b1c1
 go_wp2_with fail
 rw [← hV9]
 clear b1c0 b1c1 hV9
 refine HC10.mono ?_
 rintro e w10 ⟨⟨k10, l10, x10, n10, a10, c10, rfl, hn10, hl10, ht10⟩, hb10⟩
 obtain ⟨V10, hV10⟩ := exa (w10.alloc (.cells #[.slice a10 n10 c10, .int .i64 x10] 27))
 have hbV10 : Below w10.heap.size w10 V10 := by rw [hV10]; exact (Below.refl _ w10).alloc (Nat.le_refl _) _
 have HB10 : Hid (Below V9.heap.size V9 V10 ∧ Box V10 w10.heap.size 27 #[.slice a10 n10 c10, .int .i64 x10] ∧ ndsN.lies V9.heap.size V10 [.slice a10 n10 c10] l10 ∧ n10 = l10.length ∧ Told (l, nx) [p] (rmE (l, nx) (sval p)) (dropN (l, nx) (hold (l, nx) (sval p)) (lst (sval p)) (tgt (l, nx) (sval p))) k10 (l10, x10)) := ⟨below_any hb10 hbV10, by rw [hV10]; exact Box.new _ _ _, ndsN.below hl10 hbV10, hn10, ht10⟩
 clear hb10 hbV10 hl10 hn10 ht10 HC10
 have HC11 := (HRD.out V10 (below_any (below_any (below_any (below_any (below_any (below_any (below_any (below_any (below_any (below_any HB0.out.1 HB1.out.1) HL2.out.1) HL3.out) HB4.out.1) HB5.out.1) HB6.out.1) HB7.out.1) HB8.out.1) HB9.out.1) HB10.out.1)).2.2.2.2.1
 obtain ⟨b0c0, b0c1, -, -⟩ := ((HB0.out.2).below (below_any (below_any (below_any (below_any (below_any (below_any (below_any (below_any (below_any HB1.out.1 HL2.out.1) HL3.out) HB4.out.1) HB5.out.1) HB6.out.1) HB7.out.1) HB8.out.1) HB9.out.1) HB10.out.1) (HB0.out.2).lt).two
 rw [hV10] at b0c0 b0c1
 go_wp2_with fail
 rw [← hV10]
 clear b0c0 b0c1 hV10
 refine HC11.mono ?_
 rintro e w11 ⟨⟨k11, l11, x11, n11, a11, c11, rfl, hn11, hl11, ht11⟩, hb11⟩
 obtain ⟨rfl, heq11⟩ := HB10.out.2.2.2.2.one ht11
 obtain ⟨e1, e2⟩ := Prod.mk.inj heq11
 subst e1 e2
 have hl11 := hl11.lie
 obtain ⟨V11, hV11⟩ := exa (w11.alloc (.cells #[.slice a11 n11 c11, .int .i64 x10] 24))
 have hbV11 : Below w11.heap.size w11 V11 := by rw [hV11]; exact (Below.refl _ w11).alloc (Nat.le_refl _) _
 have HB11 : Hid (Below V10.heap.size V10 V11 ∧ Box V11 w11.heap.size 24 #[.slice a11 n11 c11, .int .i64 x10] ∧ ndsR.lies 0 V11 [.slice a11 n11 c11] l10 ∧ n11 = l10.length) := ⟨below_any hb11 hbV11, by rw [hV11]; exact Box.new _ _ _, ndsR.below hl11 hbV11, hn11⟩
 clear hb11 hbV11 hl11 hn11 ht11 HC11 heq11
 have HC12 := alike_f (nx := x4) HB4.out.2.2.2.1 HB5.out.2.2.2 (ndsN.below HB4.out.2.2.1 (below_any (below_any (below_any (below_any (below_any (below_any HB5.out.1 HB6.out.1) HB7.out.1) HB8.out.1) HB9.out.1) HB10.out.1) HB11.out.1)) (ndsR.below HB5.out.2.2.1 (below_any (below_any (below_any (below_any (below_any HB6.out.1 HB7.out.1) HB8.out.1) HB9.out.1) HB10.out.1) HB11.out.1))
 obtain ⟨b4c0, b4c1, -, -⟩ := ((HB4.out.2.1).below (below_any (below_any (below_any (below_any (below_any (below_any HB5.out.1 HB6.out.1) HB7.out.1) HB8.out.1) HB9.out.1) HB10.out.1) HB11.out.1) (HB4.out.2.1).lt).two
 rw [hV11] at b4c0 b4c1
 obtain ⟨b5c0, b5c1, -, -⟩ := ((HB5.out.2.1).below (below_any (below_any (below_any (below_any (below_any HB6.out.1 HB7.out.1) HB8.out.1) HB9.out.1) HB10.out.1) HB11.out.1) (HB5.out.2.1).lt).two
 rw [hV11] at b5c0 b5c1
 go_wp2_with (go_at_call 20; refine (num10_any _ _).mono ?_; rintro e v ⟨rfl, rfl⟩)
 rw [← hV11]
 clear b4c0 b4c1 b5c0 b5c1 hV11
 refine HC12.mono ?_
 rintro e w12 ⟨rfl, hb12⟩
 have HL12 : Hid (Below V11.heap.size V11 w12) := hb12
 clear hb12 HC12
 have HC13 := alike_f (nx := x6) HB6.out.2.2.2.1 HB7.out.2.2.2 (ndsN.below HB6.out.2.2.1 (below_any (below_any (below_any (below_any (below_any HB7.out.1 HB8.out.1) HB9.out.1) HB10.out.1) HB11.out.1) HL12.out)) (ndsR.below HB7.out.2.2.1 (below_any (below_any (below_any (below_any HB8.out.1 HB9.out.1) HB10.out.1) HB11.out.1) HL12.out))
 obtain ⟨b6c0, b6c1, -, -⟩ := ((HB6.out.2.1).below (below_any (below_any (below_any (below_any (below_any HB7.out.1 HB8.out.1) HB9.out.1) HB10.out.1) HB11.out.1) HL12.out) (HB6.out.2.1).lt).two
 obtain ⟨b7c0, b7c1, -, -⟩ := ((HB7.out.2.1).below (below_any (below_any (below_any (below_any HB8.out.1 HB9.out.1) HB10.out.1) HB11.out.1) HL12.out) (HB7.out.2.1).lt).two
 go_wp2_with (go_at_call 20; refine (num10_any _ _).mono ?_; rintro e v ⟨rfl, rfl⟩)
 clear b6c0 b6c1 b7c0 b7c1
 refine HC13.mono ?_
 rintro e w13 ⟨rfl, hb13⟩
 have HL13 : Hid (Below w12.heap.size w12 w13) := hb13
 clear hb13 HC13
 have HC14 := alike_f (nx := x8) HB8.out.2.2.2.1 HB9.out.2.2.2 (ndsN.below HB8.out.2.2.1 (below_any (below_any (below_any (below_any HB9.out.1 HB10.out.1) HB11.out.1) HL12.out) HL13.out)) (ndsR.below HB9.out.2.2.1 (below_any (below_any (below_any HB10.out.1 HB11.out.1) HL12.out) HL13.out))
 obtain ⟨b8c0, b8c1, -, -⟩ := ((HB8.out.2.1).below (below_any (below_any (below_any (below_any HB9.out.1 HB10.out.1) HB11.out.1) HL12.out) HL13.out) (HB8.out.2.1).lt).two
 obtain ⟨b9c0, b9c1, -, -⟩ := ((HB9.out.2.1).below (below_any (below_any (below_any HB10.out.1 HB11.out.1) HL12.out) HL13.out) (HB9.out.2.1).lt).two
 go_wp2_with (go_at_call 20; refine (num10_any _ _).mono ?_; rintro e v ⟨rfl, rfl⟩)
 clear b8c0 b8c1 b9c0 b9c1
 refine HC14.mono ?_
 rintro e w14 ⟨rfl, hb14⟩
 have HL14 : Hid (Below w13.heap.size w13 w14) := hb14
 clear hb14 HC14
 have HC15 := alike_f (nx := x10) HB10.out.2.2.2.1 HB11.out.2.2.2 (ndsN.below HB10.out.2.2.1 (below_any (below_any (below_any HB11.out.1 HL12.out) HL13.out) HL14.out)) (ndsR.below HB11.out.2.2.1 (below_any (below_any HL12.out HL13.out) HL14.out))
 obtain ⟨b10c0, b10c1, -, -⟩ := ((HB10.out.2.1).below (below_any (below_any (below_any HB11.out.1 HL12.out) HL13.out) HL14.out) (HB10.out.2.1).lt).two
 obtain ⟨b11c0, b11c1, -, -⟩ := ((HB11.out.2.1).below (below_any (below_any HL12.out HL13.out) HL14.out) (HB11.out.2.1).lt).two
 go_wp2_with (go_at_call 20; refine (num10_any _ _).mono ?_; rintro e v ⟨rfl, rfl⟩)
 clear b10c0 b10c1 b11c0 b11c1
 refine HC15.mono ?_
 rintro e w15 ⟨rfl, hb15⟩
 have HL15 : Hid (Below w14.heap.size w14 w15) := hb15
 clear hb15 HC15
 go_wp2_with (go_at_call 20; refine (num10_any _ _).mono ?_; rintro e v ⟨rfl, rfl⟩)
 obtain ⟨X, hX⟩ := exa (w15)
 have HX : Hid (Below w.heap.size w X ∧ Below V0.heap.size V0 X ∧ Below V1.heap.size V1 X) := by rw [hX]; exact ⟨(below_any (below_any (below_any (below_any (below_any (below_any (below_any (below_any (below_any (below_any (below_any (below_any (below_any (below_any (below_any HB0.out.1 HB1.out.1) HL2.out.1) HL3.out) HB4.out.1) HB5.out.1) HB6.out.1) HB7.out.1) HB8.out.1) HB9.out.1) HB10.out.1) HB11.out.1) HL12.out) HL13.out) HL14.out) HL15.out), (below_any (below_any (below_any (below_any (below_any (below_any (below_any (below_any (below_any (below_any (below_any (below_any (below_any (below_any HB1.out.1 HL2.out.1) HL3.out) HB4.out.1) HB5.out.1) HB6.out.1) HB7.out.1) HB8.out.1) HB9.out.1) HB10.out.1) HB11.out.1) HL12.out) HL13.out) HL14.out) HL15.out), (below_any (below_any (below_any (below_any (below_any (below_any (below_any (below_any (below_any (below_any (below_any (below_any (below_any HL2.out.1 HL3.out) HB4.out.1) HB5.out.1) HB6.out.1) HB7.out.1) HB8.out.1) HB9.out.1) HB10.out.1) HB11.out.1) HL12.out) HL13.out) HL14.out) HL15.out)⟩
 rw [← hX]
 clear hX
 have HS : Hid (∀ V, Below X.heap.size X V → (V.cell? ⟨w.heap.size, 0, none⟩ = some (.slice a n c) ∧ V.cell? ⟨w.heap.size, 1, none⟩ = some (.int .i64 nx) ∧ V.cell? ⟨w1.heap.size, 0, none⟩ = some (.slice a1 n c1) ∧ V.cell? ⟨w1.heap.size, 1, none⟩ = some (.int .i64 nx))) := fun V hV => by (
 obtain ⟨p0, p1, -, -⟩ := (HB0.out.2.below (below_any HX.out.2.1 hV) HB0.out.2.lt).two
 obtain ⟨q0, q1, -, -⟩ := (HB1.out.2.1.below (below_any HX.out.2.2 hV) HB1.out.2.1.lt).two
 exact ⟨p0, p1, q0, q1⟩)
 have HK1 : Hid (∀ V, Below X.heap.size X V → Calls Tryz.prog 22 #[.agg #[.slice a1 n c1, .int .i64 nx]] V fun e w' => e = .returned (.int .i64 kc) ∧ Below V.heap.size V w') := fun V hV => by (
 have h1 := check_any V0.heap.size a1 c1 (l, nx) V (by rw [← H0.out.2.1]; exact ndsN.below HB1.out.2.2 (below_any HX.out.2.2 hV))
 rw [← H0.out.2.1] at h1
 refine h1.mono fun e w' h => ⟨?_, h.2⟩
 obtain ⟨r, rfl, hr⟩ := h.1
 rw [HKC.out r hr])
 have HK2 : Hid (∀ V, Below X.heap.size X V → Calls Tryz.prog 23 #[.agg #[.slice a n c, .int .i64 nx]] V fun e w' => e = .returned (.int .i64 kc) ∧ Below V.heap.size V w') := fun V hV => by (
 refine (HRD.out V (below_any HX.out.1 hV)).2.2.2.2.2.mono fun e w' h => ⟨?_, h.2⟩
 obtain ⟨r, rfl, hr⟩ := h.1
 rw [HKC.out r hr])
 have HK3 : Hid (∀ V, Below X.heap.size X V → Calls Tryz.prog 21 #[.agg #[.slice a1 n c1, .int .i64 nx], .agg #[.slice a n c, .int .i64 nx]] V fun e w' => e = .returned (.int .i64 0) ∧ Below V.heap.size V w') := fun V hV => alike_f H0.out.2.1 H0.out.2.1 (ndsN.below HB1.out.2.2 (below_any HX.out.2.2 hV)) (ndsR.below H0.out.1 (below_any HX.out.1 hV))
 have HK4 : Hid (∀ V, Below X.heap.size X V → Calls Tryz.prog 24 #[] V fun e w' => e = .returned (.bool true) ∧ Below V.heap.size V w') := fun V hV => alive_any V (HG.out _ (below_any HX.out.1 hV))
 have HS0 := HS.out X.drew (Below.refl _ X).drew
 have hbx0 : Below X.heap.size X X.drew := (Below.refl _ X).drew
 go_region_held3 (fun V => V.cell? ⟨w.heap.size, 0, none⟩ = some (.slice a n c) ∧ V.cell? ⟨w.heap.size, 1, none⟩ = some (.int .i64 nx) ∧ V.cell? ⟨w1.heap.size, 0, none⟩ = some (.slice a1 n c1) ∧ V.cell? ⟨w1.heap.size, 1, none⟩ = some (.int .i64 nx))
   (first | with_reducible exact HS4 | with_reducible exact HS3 | with_reducible exact HS2 | with_reducible exact HS1 | with_reducible exact HS0)
   ((first
     | (go_at_call 22; refine (HK1.out _ hbx0).mono ?_; rintro e y1 ⟨rfl, hy1⟩; have hbx1 := below_any hbx0 hy1; have HS1 := HS.out y1 hbx1)
     | (go_at_call 20; refine (num10_any _ _).mono ?_; rintro e y9 ⟨rfl, rfl⟩)
     | (go_at_call 23; refine (HK2.out _ hbx1).mono ?_; rintro e y2 ⟨rfl, hy2⟩; have hbx2 := below_any hbx1 hy2; have HS2 := HS.out y2 hbx2)
     | (go_at_call 21; refine (HK3.out _ hbx2).mono ?_; rintro e y3 ⟨rfl, hy3⟩; have hbx3 := below_any hbx2 hy3; have HS3 := HS.out y3 hbx3)
     | (go_at_call 24; refine (HK4.out _ hbx3).mono ?_; rintro e y4 ⟨rfl, hy4⟩; have hbx4 := below_any hbx3 hy4; have HS4 := HS.out y4 hbx4)))
 have HZ : Hid (Below w.heap.size w y4) := below_any HX.out.1 hbx4
 clear hy1 hy2 hy3 hy4 hbx0 hbx1 hbx2 hbx3 hbx4
 go_wp2
 go_ret
 exact ⟨by simp, HZ.out⟩
 
theorem contract (H : Type) (enc : TypeId × Value → H) (W : World) (base : Nat) (args : Array Value) (ds gs : List (DataW H)) (before : List MemPlace)
   (hval0 : ∀ (j : Nat) t v, Tryz.f3.params[j]? = some t → args[j]? = some v → Value.okWide Tryz.prog W .any base t v)
   (hW : DataW.Whole enc Tryz.prog Tryz.f3.params.toList Rows.fsMakesSpec.vars false W args.toList ds gs before) 
   (hsz0 : (DataW.weightsEach Tryz.prog (Tryz.f3.params.toList ++ Rows.fsMakesSpec.plain.varTypes Tryz.prog) (ds ++ gs)).all (· ≤ reachBytes) = true) (hg : Glob W) :
   Calls Tryz.prog 3 args W fun e W' => ∃ v, e = .returned v ∧ Rows.fsMakesSpec.post enc Tryz.prog Tryz.f3 false true false false W args v W' := by
 have hval := hval0
 have hW' := hW
 obtain ⟨p, q, hA0, hV, rfl, hfz, hnd⟩ := hW
 have hA : DataW.TrodAll enc Tryz.prog W 0 (fun _ => true) true Tryz.f3.params.toList args.toList ds p := hA0
 have hsz := hsz0
 clear hsz0
 rw [Tryz.params3] at hA hval hsz
 obtain ⟨v0, vs0, d0, ds0, p0, q0, hargs, rfl, rfl, h0, r0⟩ := trodAll_cons hA
 obtain ⟨v1, vs1, d1, ds1, p1, q1, rfl, rfl, rfl, h1, r1⟩ := trodAll_cons r0
 obtain ⟨rfl, rfl, rfl⟩ := trodAll_nil r1
 obtain rfl : args = #[v0, v1] := by cases args; simp_all
 obtain ⟨rfl, rfl⟩ := trodVars_none hV
 obtain ⟨cs0, rfl, hc0⟩ := okWide_struct Tryz.underlying24 (hval 0 24 v0 rfl rfl)
 obtain ⟨us0, rfl⟩ := as_list cs0
 have k0 := h0
 have lt0 : ∀ x ∈ p0, x.block < W.heap.size := by obtain ⟨m, hm⟩ := k0; exact DataW.trod_lt m _ _ _ hm
 obtain ⟨m0, hm0⟩ := h0
 obtain ⟨s0, A0, F0'⟩ := stR.reads hm0
 have F0 := F0' fun n hn => by have := List.all_eq_true.1 hsz _ (DataW.weights_mem_each (j := 0) rfl rfl n hn); simpa using this
 obtain ⟨t1, rfl, rfl, rfl, z1⟩ := open_string Tryz.underlying9 (hval 1 9 v1 rfl rfl) h1
 clear hA0 hval0
 refine (walk us0 s0 t1 W A0 (fitsS_of F0) z1 hg).mono fun e W' ⟨he, bel⟩ => ?_
 subst he
 exact ⟨_, rfl, _, _, _, [], _, [], hW', trodAll_mk1 (shut_bool Tryz.underlying4 _), (trodAll_cons_mk (Below.trod laidOut (by kernel_rfl) (of_decide_eq_true (by kernel_rfl)) k0 bel lt0) (trodAll_cons_mk (shut_string Tryz.underlying9 z1) trodAll_mk0)), rfl, bel.frame _, fun h => by cases h⟩
theorem reads (os : Os) {H : Type} (enc : TypeId × Value → H) : ∃ places, DataW.whole enc Tryz.prog ((laidOf (World.holding Tryz.prog os ⟨#[], #[], []⟩)).forCall (fun _ _ => 0) ⟨#[], #[.agg #[.slice none 0 0, .int .i64 0], .string ⟨#[]⟩], []⟩).memory Tryz.f3.params.toList Rows.fsMakesSpec.vars false (#[.agg #[.slice none 0 0, .int .i64 0], .string ⟨#[]⟩] : Array Value).toList 8 = some ([.agg [.nil, .lit (.int .i64 0)], .lit (.string [])], [], places) :=
 ⟨[], by kernel_rfl⟩
theorem lifted (os : Os) (started : os.Started) (H : Type) (enc : TypeId × Value → H) (F : Stop.Interp) :
   ReturnsInHanded {} Tryz.checked os 3 .any ((OpenSpec.ofChange Rows.fsMakesSpec).preRow enc Tryz.prog Tryz.f3 Rows.fsMakesRow.domain false Rows.fsMakesRow.laid) (((OpenSpec.ofChange Rows.fsMakesSpec).at F).post enc Tryz.prog Tryz.f3 false true false false) := by
 obtain ⟨places, hx⟩ := reads os enc
 refine returnsInHanded_of_row (C := Tryz.checked) (s := (OpenSpec.ofChange Rows.fsMakesSpec)) own started (by kernel_rfl) Tryz.func3
   (witness_row_at (enc := enc) (C := Tryz.checked) false (laidOf (World.holding Tryz.prog os ⟨#[], #[], []⟩)) #[.agg #[.slice none 0 0, .int .i64 0], .string ⟨#[]⟩] rfl (by kernel_rfl) (by kernel_rfl) (by kernel_rfl)
     (OpenSpec.preRow_of_cond 8 hx (by kernel_rfl) (fun k hk => by cases hk) (by kernel_rfl) (laidWorld_met os _))) ?_
 intro W base args ds gs before hval hW _ _ hsz hL _ _
 exact contract H enc W base args ds gs before hval hW hsz (handle_of_laid hL)
theorem said : Rows.FsMakesSaid :=
 OpenClaim.holds_of_cond 3 Tryz.f3 rfl rfl rfl rfl rfl rfl rfl ⟨rfl, rfl, rfl, rfl, rfl⟩ rfl rfl rfl rfl rfl (by kernel_rfl) Tryz.func3 (by kernel_rfl)
   (of_decide_eq_true (by kernel_rfl)) (by unfold Func.isWrapper; first | (rw [if_pos (by decide +kernel)]; kernel_rfl) | (rw [if_neg (by decide +kernel)]; exact ⟨rfl, rfl⟩))
   (fun os started H enc _ F => by rw [OpenClaim.pre_eq_preRow]; exact lifted os started H enc F)
theorem plain (f : FuncId) (fn : Func) (hf : Tryz.pinned.checked.prog.funcNamed Tryz.f3.name = some f) (hfn : Tryz.pinned.checked.prog.funcs[f]? = some fn) :
   true = Tryz.pinned.checked.prog.looks [] ∧ ∀ (j : Nat) t, fn.params[j]? = some t → Tryz.pinned.checked.prog.wantsStandIn t = false := by
 obtain rfl : f = 3 := Option.some.inj ((show Tryz.prog.funcNamed Tryz.f3.name = some 3 by kernel_rfl).symm.trans hf) |>.symm
 obtain rfl : fn = Tryz.f3 := (Option.some.inj (Tryz.func3.symm.trans hfn)).symm
 refine ⟨by kernel_rfl, fun j t ht => ?_⟩
 rw [Tryz.params3] at ht
 have hm := Array.mem_of_getElem? ht
 simp only [List.mem_toArray, List.mem_cons, List.not_mem_nil, or_false] at hm
 rcases hm with rfl | rfl
 · exact (show Tryz.prog.wantsStandIn 24 = false by kernel_rfl)
 · exact (show Tryz.prog.wantsStandIn 9 = false by kernel_rfl)
theorem card : Rows.FsMakesCardSaid :=
 Claim7.holds_tied_plain_at .later [] _ _ _ _ said (fun _ h => by cases h) (by kernel_rfl) (fun _ h => by cases h) fsMakes_row_tie rfl ⟨rfl, rfl⟩ (by kernel_rfl) rfl plain (by kernel_rfl)
end Go.Proofs.YtkcnephbaffmbaaGreatDoor.fsMakes
namespace Go.Proofs.YtkcnephbaffmbaaGreatDoor
theorem fsMakes_holds : Rows.FsMakesCardSaid := fsMakes.card
#print axioms fsMakes_holds
end Go.Proofs.YtkcnephbaffmbaaGreatDoor
