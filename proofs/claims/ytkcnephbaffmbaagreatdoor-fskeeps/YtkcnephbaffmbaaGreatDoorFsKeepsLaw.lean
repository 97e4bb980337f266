/-
  FsKeeps, proved: for every state of the document, every two paths and octets (as great as the form reads them): the call returns true, and changes nothing that was in memory; the one listed variable (the handle of the type of errors) starts as the program's text lays it, which the card ties.
-/
import Derived.Test.YtkcnephbaffmbaaGreatDoorK07
import Derived.Test.YtkcnephbaffmbaaGreatDoorK41
import Derived.Test.YtkcnephbaffmbaaGreatDoorK44
import Derived.Test.YtkcnephbaffmbaaGreatDoorK45
import Derived.Test.YtkcnephbaffmbaaGreatDoorCards
import Derived.Test.YtkcnephbaffmbaaGreatDoorTie
import Derived.Deep.DeepHandedRow
import Derived.ChangeMaps5
set_option maxRecDepth 100000
set_option maxHeartbeats 20000000
namespace Go.Proofs.YtkcnephbaffmbaaGreatDoor.fsKeeps
open Go.ChangeShapes Go.WideShapes Go.ChangeAt Go.RowKit Go.ChangeMaps
open P (serr sval)
set_option linter.unusedVariables false
theorem wpList_cut8 {P : Program} {ops : Array Oper} {Q : Exit → Act → World → Prop} {o1 o2 o3 o4 o5 o6 o7 o8 : Oper} {rest : List Oper} {a : Act} {w : World} (d1 d2 d3 d4 d5 d6 d7 d8 : Tmp) (V : World)
   (first : ∀ tail, (∀ g1 g2 g3 g4 g5 g6 g7 U, Below V.heap.size V U → wpList P ops Q (id tail) ((((((((a.put (some d1) g1).put (some d2) g2).put (some d3) g3).put (some d4) g4).put (some d5) g5).put (some d6) g6).put (some d7) g7).put (some d8) (.bool true)) U) → wpList P ops Q (o1 :: o2 :: o3 :: o4 :: o5 :: o6 :: o7 :: o8 :: id tail) a w) (next : ∀ g1 g2 g3 g4 g5 g6 g7 U, Below V.heap.size V U → wpList P ops Q rest ((((((((a.put (some d1) g1).put (some d2) g2).put (some d3) g3).put (some d4) g4).put (some d5) g5).put (some d6) g6).put (some d7) g7).put (some d8) (.bool true)) U) : wpList P ops Q (o1 :: o2 :: o3 :: o4 :: o5 :: o6 :: o7 :: o8 :: rest) a w := first rest next
theorem wpList_cut11 {P : Program} {ops : Array Oper} {Q : Exit → Act → World → Prop} {o1 o2 o3 o4 o5 o6 o7 o8 o9 o10 o11 : Oper} {rest : List Oper} {a : Act} {w : World} (d1 d2 d3 d4 d5 d6 d7 d8 d9 d10 d11 : Tmp) (V : World)
   (first : ∀ tail, (∀ g1 g2 g3 g4 g5 g6 g7 g8 g9 g10 U, Below V.heap.size V U → wpList P ops Q (id tail) (((((((((((a.put (some d1) g1).put (some d2) g2).put (some d3) g3).put (some d4) g4).put (some d5) g5).put (some d6) g6).put (some d7) g7).put (some d8) g8).put (some d9) g9).put (some d10) g10).put (some d11) (.bool true)) U) → wpList P ops Q (o1 :: o2 :: o3 :: o4 :: o5 :: o6 :: o7 :: o8 :: o9 :: o10 :: o11 :: id tail) a w) (next : ∀ g1 g2 g3 g4 g5 g6 g7 g8 g9 g10 U, Below V.heap.size V U → wpList P ops Q rest (((((((((((a.put (some d1) g1).put (some d2) g2).put (some d3) g3).put (some d4) g4).put (some d5) g5).put (some d6) g6).put (some d7) g7).put (some d8) g8).put (some d9) g9).put (some d10) g10).put (some d11) (.bool true)) U) : wpList P ops Q (o1 :: o2 :: o3 :: o4 :: o5 :: o6 :: o7 :: o8 :: o9 :: o10 :: o11 :: rest) a w := first rest next
theorem walk (us : List Value) (s : St) (p q : ByteArray) (da : Option Addr) (dn dc : Nat) (d : List Int) (w : World) (hA : stR.lies 0 w us s) (hF : FitsS s.1) (hp : p.size ≤ maxLen) (hq : q.size ≤ maxLen) (hD : bytesS.lies 0 w [.slice da dn dc] d) (hg : Glob w) :
   Calls Tryz.prog 6 #[.agg us.toArray, .string p, .string q, .slice da dn dc] w fun e w' => e = .returned (.bool true) ∧ Below w.heap.size w w' := by
 obtain ⟨a, c, rfl, hs, hI, hm⟩ := st_viewR hA
 obtain ⟨l, nx⟩ := s
 have hDA : Arg 0 w (.slice da dn dc) d := hD
 obtain ⟨da', dc', hde, -, hdm, -⟩ := hDA.shape
 obtain ⟨rfl, rfl, rfl⟩ := Value.slice.inj hde
 simp only at hs hI hm hF ⊢
 obtain ⟨n, hn⟩ : ∃ n, n = l.length := ⟨_, rfl⟩
 obtain ⟨dl, hdl⟩ : ∃ n, n = d.length := ⟨_, rfl⟩
 rw [← hn] at hs ⊢
 rw [← hdl] at hDA hdm ⊢
 unfold maxLen at hdm
 have HG : Hid (∀ V, Below w.heap.size w V → Glob V) := fun V hV => hg.below hV hg.lt
 have H0 : Hid (ndsR.lies 0 w [.slice a n c] l ∧ n = l.length ∧ FitsS l ∧ p.size ≤ maxLen ∧ q.size ≤ maxLen ∧ Arg 0 w (.slice da dl dc) d ∧ dl = d.length ∧ I64 (dl : Int)) := ⟨hs, hn, hF, hp, hq, hDA, hdl, by unfold I64; omega⟩
 obtain ⟨V0, hV0⟩ : ∃ V, V = w.alloc (.cells #[.slice a n c, .int .i64 nx] 24) := ⟨_, rfl⟩
 have HB0 : Hid (Below w.heap.size w V0 ∧ Box V0 w.heap.size 24 #[.slice a n c, .int .i64 nx]) := ⟨by rw [hV0]; exact (Below.refl _ w).alloc (Nat.le_refl _) _, by rw [hV0]; exact Box.new _ _ _⟩
 have hld := run_len Tryz.underlying47 da dl dc
 clear hA hs hn hF hp hq hI hm hg hD hDA hde hdl hdm
 have HC1 := alive_any V0 (HG.out _ HB0.out.1)
 go_enter Tryz.func6, Tryz.ntmps6
 go_wp2_with fail
 rw [← hV0]
 clear hV0
 refine HC1.mono ?_
 rintro e w1 ⟨rfl, hb1⟩
 have HL1 : Hid (Below V0.heap.size V0 w1) := hb1
 clear hb1 HC1
 have HC2 := of_f (nx := nx) H0.out.2.1 (ndsR.below H0.out.1 (below_any HB0.out.1 HL1.out)) H0.out.2.2.1
 obtain ⟨b0c0, b0c1, -, -⟩ := ((HB0.out.2).below HL1.out (HB0.out.2).lt).two
 go_wp2_with fail
 clear b0c0 b0c1
 refine HC2.mono ?_
 rintro e w2 ⟨⟨a2, c2, rfl, ho2⟩, hb2⟩
 obtain ⟨V2, hV2⟩ : ∃ V, V = w2.alloc (.cells #[.slice a2 n c2, .int .i64 nx] 27) := ⟨_, rfl⟩
 have hbV2 : Below w2.heap.size w2 V2 := by rw [hV2]; exact (Below.refl _ w2).alloc (Nat.le_refl _) _
 have HB2 : Hid (Below w1.heap.size w1 V2 ∧ Box V2 w2.heap.size 27 #[.slice a2 n c2, .int .i64 nx] ∧ ndsN.lies w1.heap.size V2 [.slice a2 n c2] l) := ⟨below_any hb2 hbV2, by rw [hV2]; exact Box.new _ _ _, ndsN.below (ndsN.olies ho2) hbV2⟩
 clear hb2 hbV2 ho2 HC2
 have HC3 := rename_f (nx := nx) H0.out.2.1 H0.out.2.2.2.1 H0.out.2.2.2.2.1 (ndsN.below HB2.out.2.2 (Below.refl _ V2)) (HG.out _ (below_any (below_any HB0.out.1 HL1.out) HB2.out.1))
 obtain ⟨b2c0, b2c1, -, -⟩ := HB2.out.2.1.two
 rw [hV2] at b2c0 b2c1
 go_wp2_with fail
 rw [← hV2]
 clear b2c0 b2c1 hV2
 refine HC3.mono ?_
 rintro e w3 ⟨⟨k3, l3, x3, n3, a3, c3, rfl, hn3, hl3, ht3⟩, hb3⟩
 obtain ⟨V3, hV3⟩ : ∃ V, V = w3.alloc (.cells #[.slice a3 n3 c3, .int .i64 x3] 27) := ⟨_, rfl⟩
 have hbV3 : Below w3.heap.size w3 V3 := by rw [hV3]; exact (Below.refl _ w3).alloc (Nat.le_refl _) _
 have HB3 : Hid (Below V2.heap.size V2 V3 ∧ Box V3 w3.heap.size 27 #[.slice a3 n3 c3, .int .i64 x3] ∧ ndsN.lies V2.heap.size V3 [.slice a3 n3 c3] l3 ∧ n3 = l3.length ∧ (k3 = 0 → Ok (l3, x3))) := ⟨below_any hb3 hbV3, by rw [hV3]; exact Box.new _ _ _, ndsN.below hl3 hbV3, hn3, fun hz => by subst hz; exact (by obtain ⟨o1, o2, o3, o4⟩ := ht3.ok; rw [o4]; exact rename_ok o1 (sval_len (psE_two.1 o2).2) o3)⟩
 clear hb3 hbV3 hl3 hn3 HC3 ht3
 have HC4 := link_f (nx := nx) H0.out.2.1 H0.out.2.2.2.1 H0.out.2.2.2.2.1 (ndsN.below HB2.out.2.2 HB3.out.1) (HG.out _ (below_any (below_any (below_any HB0.out.1 HL1.out) HB2.out.1) HB3.out.1))
 obtain ⟨b2c0, b2c1, -, -⟩ := ((HB2.out.2.1).below HB3.out.1 (HB2.out.2.1).lt).two
 rw [hV3] at b2c0 b2c1
 go_wp2_with fail
 rw [← hV3]
 clear b2c0 b2c1 hV3
 refine HC4.mono ?_
 rintro e w4 ⟨⟨k4, l4, x4, n4, a4, c4, rfl, hn4, hl4, ht4⟩, hb4⟩
 obtain ⟨V4, hV4⟩ : ∃ V, V = w4.alloc (.cells #[.slice a4 n4 c4, .int .i64 x4] 27) := ⟨_, rfl⟩
 have hbV4 : Below w4.heap.size w4 V4 := by rw [hV4]; exact (Below.refl _ w4).alloc (Nat.le_refl _) _
 have HB4 : Hid (Below V3.heap.size V3 V4 ∧ Box V4 w4.heap.size 27 #[.slice a4 n4 c4, .int .i64 x4] ∧ ndsN.lies V3.heap.size V4 [.slice a4 n4 c4] l4 ∧ n4 = l4.length ∧ (k4 = 0 → Ok (l4, x4))) := ⟨below_any hb4 hbV4, by rw [hV4]; exact Box.new _ _ _, ndsN.below hl4 hbV4, hn4, fun hz => by subst hz; exact (by obtain ⟨o1, o2, o3, o4⟩ := ht4.ok; rw [o4]; exact link_ok o1 (sval_len (psE_two.1 o2).2) o3)⟩
 clear hb4 hbV4 hl4 hn4 HC4
 have HT4 : Hid (Told (l, nx) [p, q] (lnE (l, nx) (sval p) (sval q)) (lnkN (l, nx) (hold (l, nx) (sval q)) (lst (sval q)) (tgt (l, nx) (sval p))) k4 (l4, x4)) := ht4
 clear ht4
 have HC5 := create_f (nx := nx) H0.out.2.1 H0.out.2.2.2.2.1 (ndsN.below HB2.out.2.2 (below_any HB3.out.1 HB4.out.1)) (HG.out _ (below_any (below_any (below_any (below_any HB0.out.1 HL1.out) HB2.out.1) HB3.out.1) HB4.out.1))
 obtain ⟨b2c0, b2c1, -, -⟩ := ((HB2.out.2.1).below (below_any HB3.out.1 HB4.out.1) (HB2.out.2.1).lt).two
 rw [hV4] at b2c0 b2c1
 go_wp2_with fail
 rw [← hV4]
 clear b2c0 b2c1 hV4
 refine HC5.mono ?_
 rintro e w5 ⟨⟨k5, l5, x5, n5, a5, c5, rfl, hn5, hl5, ht5⟩, hb5⟩
 obtain ⟨V5, hV5⟩ : ∃ V, V = w5.alloc (.cells #[.slice a5 n5 c5, .int .i64 x5] 27) := ⟨_, rfl⟩
 have hbV5 : Below w5.heap.size w5 V5 := by rw [hV5]; exact (Below.refl _ w5).alloc (Nat.le_refl _) _
 have HB5 : Hid (Below V4.heap.size V4 V5 ∧ Box V5 w5.heap.size 27 #[.slice a5 n5 c5, .int .i64 x5] ∧ ndsN.lies V4.heap.size V5 [.slice a5 n5 c5] l5 ∧ n5 = l5.length ∧ (k5 = 0 → Ok (l5, x5))) := ⟨below_any hb5 hbV5, by rw [hV5]; exact Box.new _ _ _, ndsN.below hl5 hbV5, hn5, fun hz => by subst hz; exact (by obtain ⟨o1, o2, o3, o4⟩ := ht5.ok; rw [o4]; exact mk_ok o1 (sval_len (by rw [← psE_one]; exact o2)) o3 false)⟩
 clear hb5 hbV5 hl5 hn5 HC5 ht5
 have HC6 := unlink_f (nx := nx) H0.out.2.1 H0.out.2.2.2.1 (ndsN.below HB2.out.2.2 (below_any (below_any HB3.out.1 HB4.out.1) HB5.out.1)) (HG.out _ (below_any (below_any (below_any (below_any (below_any HB0.out.1 HL1.out) HB2.out.1) HB3.out.1) HB4.out.1) HB5.out.1))
 obtain ⟨b2c0, b2c1, -, -⟩ := ((HB2.out.2.1).below (below_any (below_any HB3.out.1 HB4.out.1) HB5.out.1) (HB2.out.2.1).lt).two
 rw [hV5] at b2c0 b2c1
 go_wp2_with fail
 rw [← hV5]
 clear b2c0 b2c1 hV5
 refine HC6.mono ?_
 rintro e w6 ⟨⟨k6, l6, x6, n6, a6, c6, rfl, hn6, hl6, ht6⟩, hb6⟩
 obtain ⟨V6, hV6⟩ : ∃ V, V = w6.alloc (.cells #[.slice a6 n6 c6, .int .i64 x6] 27) := ⟨_, rfl⟩
 have hbV6 : Below w6.heap.size w6 V6 := by rw [hV6]; exact (Below.refl _ w6).alloc (Nat.le_refl _) _
 have HB6 : Hid (Below V5.heap.size V5 V6 ∧ Box V6 w6.heap.size 27 #[.slice a6 n6 c6, .int .i64 x6] ∧ ndsN.lies V5.heap.size V6 [.slice a6 n6 c6] l6 ∧ n6 = l6.length ∧ (k6 = 0 → Ok (l6, x6))) := ⟨below_any hb6 hbV6, by rw [hV6]; exact Box.new _ _ _, ndsN.below hl6 hbV6, hn6, fun hz => by subst hz; exact (by obtain ⟨o1, o2, o3, o4⟩ := ht6.ok; rw [o4]; exact unlink_ok o1 o3)⟩
 clear hb6 hbV6 hl6 hn6 HC6
 have HT6 : Hid (Told (l, nx) [p] (filE l (sval p)) (dropN (l, nx) (hold (l, nx) (sval p)) (lst (sval p)) (tgt (l, nx) (sval p))) k6 (l6, x6)) := ht6
 clear ht6
 have HC7 := write_f (nx := nx) H0.out.2.1 H0.out.2.2.2.1 H0.out.2.2.2.2.2.2.2 H0.out.2.2.2.2.2.2.1 (H0.out.2.2.2.2.2.1.below (below_any (below_any (below_any (below_any (below_any (below_any HB0.out.1 HL1.out) HB2.out.1) HB3.out.1) HB4.out.1) HB5.out.1) HB6.out.1)) (ndsN.below HB2.out.2.2 (below_any (below_any (below_any HB3.out.1 HB4.out.1) HB5.out.1) HB6.out.1)) (HG.out _ (below_any (below_any (below_any (below_any (below_any (below_any HB0.out.1 HL1.out) HB2.out.1) HB3.out.1) HB4.out.1) HB5.out.1) HB6.out.1))
 obtain ⟨b2c0, b2c1, -, -⟩ := ((HB2.out.2.1).below (below_any (below_any (below_any HB3.out.1 HB4.out.1) HB5.out.1) HB6.out.1) (HB2.out.2.1).lt).two
 rw [hV6] at b2c0 b2c1
 go_wp2_with fail
 rw [← hV6]
 clear b2c0 b2c1 hV6
 refine HC7.mono ?_
 rintro e w7 ⟨⟨k7, m7, l7, x7, n7, a7, c7, rfl, hn7, hl7, ht7, -⟩, hb7⟩
 obtain ⟨V7, hV7⟩ : ∃ V, V = w7.alloc (.cells #[.slice a7 n7 c7, .int .i64 x7] 27) := ⟨_, rfl⟩
 have hbV7 : Below w7.heap.size w7 V7 := by rw [hV7]; exact (Below.refl _ w7).alloc (Nat.le_refl _) _
 have HB7 : Hid (Below V6.heap.size V6 V7 ∧ Box V7 w7.heap.size 27 #[.slice a7 n7 c7, .int .i64 x7] ∧ ndsN.lies V6.heap.size V7 [.slice a7 n7 c7] l7 ∧ n7 = l7.length ∧ (k7 = 0 → Ok (l7, x7))) := ⟨below_any hb7 hbV7, by rw [hV7]; exact Box.new _ _ _, ndsN.below hl7 hbV7, hn7, fun hz => by subst hz; exact (by obtain ⟨o1, o2, o3, o4⟩ := ht7.ok; rw [o4]; exact write_ok o1 o3)⟩
 have HT46 : Hid (k4 = 0 → k6 = 0) := fun hz => by
   subst hz
   obtain ⟨o1, o2, o3, -⟩ := HT4.out.ok
   exact (HT6.out.yes o1 (by rw [psE_one]; exact (psE_two.1 o2).1) (ln_zero o1 o3).1).1
 have HT76 : Hid (k7 = 0 → k6 = 0) := fun hz => by
   subst hz
   obtain ⟨o1, o2, o3, -⟩ := ht7.ok
   exact (HT6.out.yes o1 o2 (rw_zero o3).1).1
 clear hb7 hbV7 hl7 hn7 ht7 HC7 hld HT4 HT6
 have HK3 : Hid (k3 = 0 → ∀ U, Below V7.heap.size V7 U → Calls Tryz.prog 22 #[.agg #[.slice a3 n3 c3, .int .i64 x3]] U fun e w' => e = .returned (.int .i64 0) ∧ Below U.heap.size U w') := fun hz U hU => check_f HB3.out.2.2.2.1 (HB3.out.2.2.2.2 hz) (ndsN.below HB3.out.2.2.1 (below_any (below_any (below_any (below_any HB4.out.1 HB5.out.1) HB6.out.1) HB7.out.1) hU))
 have HX3 : Hid (∀ U, Below V7.heap.size V7 U → U.cell? ⟨w3.heap.size, 0, none⟩ = some (.slice a3 n3 c3) ∧ U.cell? ⟨w3.heap.size, 1, none⟩ = some (.int .i64 x3)) := fun U hU => by
   have hB := ((HB3.out.2.1).below (below_any (below_any (below_any HB4.out.1 HB5.out.1) HB6.out.1) HB7.out.1) (HB3.out.2.1).lt)
   obtain ⟨z0, z1, -, -⟩ := (hB.below hU hB.lt).two
   exact ⟨z0, z1⟩
 have HK4 : Hid (k4 = 0 → ∀ U, Below V7.heap.size V7 U → Calls Tryz.prog 22 #[.agg #[.slice a4 n4 c4, .int .i64 x4]] U fun e w' => e = .returned (.int .i64 0) ∧ Below U.heap.size U w') := fun hz U hU => check_f HB4.out.2.2.2.1 (HB4.out.2.2.2.2 hz) (ndsN.below HB4.out.2.2.1 (below_any (below_any (below_any HB5.out.1 HB6.out.1) HB7.out.1) hU))
 have HX4 : Hid (∀ U, Below V7.heap.size V7 U → U.cell? ⟨w4.heap.size, 0, none⟩ = some (.slice a4 n4 c4) ∧ U.cell? ⟨w4.heap.size, 1, none⟩ = some (.int .i64 x4)) := fun U hU => by
   have hB := ((HB4.out.2.1).below (below_any (below_any HB5.out.1 HB6.out.1) HB7.out.1) (HB4.out.2.1).lt)
   obtain ⟨z0, z1, -, -⟩ := (hB.below hU hB.lt).two
   exact ⟨z0, z1⟩
 have HK5 : Hid (k5 = 0 → ∀ U, Below V7.heap.size V7 U → Calls Tryz.prog 22 #[.agg #[.slice a5 n5 c5, .int .i64 x5]] U fun e w' => e = .returned (.int .i64 0) ∧ Below U.heap.size U w') := fun hz U hU => check_f HB5.out.2.2.2.1 (HB5.out.2.2.2.2 hz) (ndsN.below HB5.out.2.2.1 (below_any (below_any HB6.out.1 HB7.out.1) hU))
 have HX5 : Hid (∀ U, Below V7.heap.size V7 U → U.cell? ⟨w5.heap.size, 0, none⟩ = some (.slice a5 n5 c5) ∧ U.cell? ⟨w5.heap.size, 1, none⟩ = some (.int .i64 x5)) := fun U hU => by
   have hB := ((HB5.out.2.1).below (below_any HB6.out.1 HB7.out.1) (HB5.out.2.1).lt)
   obtain ⟨z0, z1, -, -⟩ := (hB.below hU hB.lt).two
   exact ⟨z0, z1⟩
 have HK6 : Hid (k6 = 0 → ∀ U, Below V7.heap.size V7 U → Calls Tryz.prog 22 #[.agg #[.slice a6 n6 c6, .int .i64 x6]] U fun e w' => e = .returned (.int .i64 0) ∧ Below U.heap.size U w') := fun hz U hU => check_f HB6.out.2.2.2.1 (HB6.out.2.2.2.2 hz) (ndsN.below HB6.out.2.2.1 (below_any HB7.out.1 hU))
 have HX6 : Hid (∀ U, Below V7.heap.size V7 U → U.cell? ⟨w6.heap.size, 0, none⟩ = some (.slice a6 n6 c6) ∧ U.cell? ⟨w6.heap.size, 1, none⟩ = some (.int .i64 x6)) := fun U hU => by
   have hB := ((HB6.out.2.1).below HB7.out.1 (HB6.out.2.1).lt)
   obtain ⟨z0, z1, -, -⟩ := (hB.below hU hB.lt).two
   exact ⟨z0, z1⟩
 have HK7 : Hid (k7 = 0 → ∀ U, Below V7.heap.size V7 U → Calls Tryz.prog 22 #[.agg #[.slice a7 n7 c7, .int .i64 x7]] U fun e w' => e = .returned (.int .i64 0) ∧ Below U.heap.size U w') := fun hz U hU => check_f HB7.out.2.2.2.1 (HB7.out.2.2.2.2 hz) (ndsN.below HB7.out.2.2.1 hU)
 have HX7 : Hid (∀ U, Below V7.heap.size V7 U → U.cell? ⟨w7.heap.size, 0, none⟩ = some (.slice a7 n7 c7) ∧ U.cell? ⟨w7.heap.size, 1, none⟩ = some (.int .i64 x7)) := fun U hU => by
   have hB := HB7.out.2.1
   obtain ⟨z0, z1, -, -⟩ := (hB.below hU hB.lt).two
   exact ⟨z0, z1⟩
 have HBF : Hid (∀ U, Below V7.heap.size V7 U → Below w.heap.size w U) := fun U hU => below_any (below_any (below_any (below_any (below_any (below_any (below_any (below_any HB0.out.1 HL1.out) HB2.out.1) HB3.out.1) HB4.out.1) HB5.out.1) HB6.out.1) HB7.out.1) hU
 have hbC : Hid (Below V7.heap.size V7 V7) := Below.refl _ _
 clear HB0 HB2 HB3 HB4 HB5 HB6 HB7 HL1 H0 HG
 go_wp2_with fail
 rw [← hV7]
 clear hV7
 refine (num10_any _ _).mono ?_
 rintro e v ⟨rfl, rfl⟩
 dsimp only
 go_step
 refine wpList_cut8 63 64 65 66 67 68 69 70 V7 ?_ ?_
 · intro tail HJ0
   simp only [ua, ub, uc, ud] at HJ0
   have HJ : Hid _ := HJ0
   clear HJ0
   obtain ⟨z0, z1⟩ := HX3.out _ (Below.refl _ V7)
   by_cases hk3 : k3 = 0
   · subst hk3
     have HCK := HK3.out rfl _ (Below.refl _ V7)
     go_wp2_with (first | (go_at_call 20; refine (num10_any _ _).mono ?_; rintro e v ⟨rfl, rfl⟩) | (go_at_call 22; refine HCK.mono ?_; rintro e v ⟨rfl, hbn⟩; have HBN : Hid (Below V7.heap.size V7 v) := hbn))
     exact HJ.out _ _ _ _ _ _ _ _ HBN.out
   · go_wp2_with (go_at_call 20; refine (num10_any _ _).mono ?_; rintro e v ⟨rfl, rfl⟩)
     exact HJ.out _ _ _ _ _ _ _ _ (Below.refl _ V7)
 · intro g63 g64 g65 g66 g67 g68 g69 U3 hU3
   have HU3 : Hid (Below V7.heap.size V7 U3) := hU3
   clear hU3
   simp only [ua, ub, uc, ud]
   refine wpList_cut11 71 72 73 74 75 76 77 78 79 80 81 V7 ?_ ?_
   · intro tail HJ0
     simp only [ua, ub, uc, ud] at HJ0
     have HJ : Hid _ := HJ0
     clear HJ0
     obtain ⟨z0, z1⟩ := HX4.out _ HU3.out
     by_cases hk4 : k4 = 0
     · subst hk4
       have HCK := HK4.out rfl _ HU3.out
       go_wp2_with (first | (go_at_call 20; refine (num10_any _ _).mono ?_; rintro e v ⟨rfl, rfl⟩) | (go_at_call 22; refine HCK.mono ?_; rintro e v ⟨rfl, hbn⟩; have HBN : Hid (Below V7.heap.size V7 v) := below_any HU3.out hbn))
       exact HJ.out _ _ _ _ _ _ _ _ _ _ _ HBN.out
     · go_wp2_with (go_at_call 20; refine (num10_any _ _).mono ?_; rintro e v ⟨rfl, rfl⟩)
       exact HJ.out _ _ _ _ _ _ _ _ _ _ _ HU3.out
   · intro g71 g72 g73 g74 g75 g76 g77 g78 g79 g80 U4 hU4
     have HU4 : Hid (Below V7.heap.size V7 U4) := hU4
     clear hU4
     simp only [ua, ub, uc, ud]
     refine wpList_cut11 82 83 84 85 86 87 88 89 90 91 92 V7 ?_ ?_
     · intro tail HJ0
       simp only [ua, ub, uc, ud] at HJ0
       have HJ : Hid _ := HJ0
       clear HJ0
       obtain ⟨z0, z1⟩ := HX5.out _ HU4.out
       by_cases hk5 : k5 = 0
       · subst hk5
         have HCK := HK5.out rfl _ HU4.out
         go_wp2_with (first | (go_at_call 20; refine (num10_any _ _).mono ?_; rintro e v ⟨rfl, rfl⟩) | (go_at_call 22; refine HCK.mono ?_; rintro e v ⟨rfl, hbn⟩; have HBN : Hid (Below V7.heap.size V7 v) := below_any HU4.out hbn))
         exact HJ.out _ _ _ _ _ _ _ _ _ _ _ HBN.out
       · go_wp2_with (go_at_call 20; refine (num10_any _ _).mono ?_; rintro e v ⟨rfl, rfl⟩)
         exact HJ.out _ _ _ _ _ _ _ _ _ _ _ HU4.out
     · intro g82 g83 g84 g85 g86 g87 g88 g89 g90 g91 U5 hU5
       have HU5 : Hid (Below V7.heap.size V7 U5) := hU5
       clear hU5
       simp only [ua, ub, uc, ud]
       refine wpList_cut11 93 94 95 96 97 98 99 100 101 102 103 V7 ?_ ?_
       · intro tail HJ0
         simp only [ua, ub, uc, ud] at HJ0
         have HJ : Hid _ := HJ0
         clear HJ0
         obtain ⟨z0, z1⟩ := HX6.out _ HU5.out
         by_cases hk6 : k6 = 0
         · subst hk6
           have HCK := HK6.out rfl _ HU5.out
           go_wp2_with (first | (go_at_call 20; refine (num10_any _ _).mono ?_; rintro e v ⟨rfl, rfl⟩) | (go_at_call 22; refine HCK.mono ?_; rintro e v ⟨rfl, hbn⟩; have HBN : Hid (Below V7.heap.size V7 v) := below_any HU5.out hbn))
           exact HJ.out _ _ _ _ _ _ _ _ _ _ _ HBN.out
         · go_wp2_with (go_at_call 20; refine (num10_any _ _).mono ?_; rintro e v ⟨rfl, rfl⟩)
           exact HJ.out _ _ _ _ _ _ _ _ _ _ _ HU5.out
       · intro g93 g94 g95 g96 g97 g98 g99 g100 g101 g102 U6 hU6
         have HU6 : Hid (Below V7.heap.size V7 U6) := hU6
         clear hU6
         simp only [ua, ub, uc, ud]
         obtain ⟨z0, z1⟩ := HX7.out _ HU6.out
         by_cases hk7 : k7 = 0
         · subst hk7
           have HCK := HK7.out rfl _ HU6.out
           go_wp2_with (first | (go_at_call 20; refine (num10_any _ _).mono ?_; rintro e v ⟨rfl, rfl⟩) | (go_at_call 22; refine HCK.mono ?_; rintro e v ⟨rfl, hbn⟩; have HBN : Hid (Below V7.heap.size V7 v) := below_any HU6.out hbn))
           go_ret
           exact ⟨rfl, HBF.out _ HBN.out⟩
         · go_wp2_with (go_at_call 20; refine (num10_any _ _).mono ?_; rintro e v ⟨rfl, rfl⟩)
           go_ret
           exact ⟨rfl, HBF.out _ HU6.out⟩
         
theorem contract (H : Type) (enc : TypeId × Value → H) (W : World) (base : Nat) (args : Array Value) (ds gs : List (DataW H)) (before : List MemPlace)
   (hval0 : ∀ (j : Nat) t v, Tryz.f6.params[j]? = some t → args[j]? = some v → Value.okWide Tryz.prog W .any base t v)
   (hW : DataW.Whole enc Tryz.prog Tryz.f6.params.toList Rows.fsKeepsSpec.vars false W args.toList ds gs before) 
   (hsz0 : (DataW.weightsEach Tryz.prog (Tryz.f6.params.toList ++ Rows.fsKeepsSpec.plain.varTypes Tryz.prog) (ds ++ gs)).all (· ≤ reachBytes) = true) (hg : Glob W) :
   Calls Tryz.prog 6 args W fun e W' => ∃ v, e = .returned v ∧ Rows.fsKeepsSpec.post enc Tryz.prog Tryz.f6 false true false false W args v W' := by
 have hval := hval0
 have hW' := hW
 obtain ⟨p, q, hA0, hV, rfl, hfz, hnd⟩ := hW
 have hA : DataW.TrodAll enc Tryz.prog W 0 (fun _ => true) true Tryz.f6.params.toList args.toList ds p := hA0
 have hsz := hsz0
 clear hsz0
 rw [Tryz.params6] at hA hval hsz
 obtain ⟨v0, vs0, d0, ds0, p0, q0, hargs, rfl, rfl, h0, r0⟩ := trodAll_cons hA
 obtain ⟨v1, vs1, d1, ds1, p1, q1, rfl, rfl, rfl, h1, r1⟩ := trodAll_cons r0
 obtain ⟨v2, vs2, d2, ds2, p2, q2, rfl, rfl, rfl, h2, r2⟩ := trodAll_cons r1
 obtain ⟨v3, vs3, d3, ds3, p3, q3, rfl, rfl, rfl, h3, r3⟩ := trodAll_cons r2
 obtain ⟨rfl, rfl, rfl⟩ := trodAll_nil r3
 obtain rfl : args = #[v0, v1, v2, v3] := by cases args; simp_all
 obtain ⟨rfl, rfl⟩ := trodVars_none hV
 obtain ⟨cs0, rfl, hc0⟩ := okWide_struct Tryz.underlying24 (hval 0 24 v0 rfl rfl)
 obtain ⟨us0, rfl⟩ := as_list cs0
 have k0 := h0
 have lt0 : ∀ x ∈ p0, x.block < W.heap.size := by obtain ⟨m, hm⟩ := k0; exact DataW.trod_lt m _ _ _ hm
 obtain ⟨m0, hm0⟩ := h0
 obtain ⟨s0, A0, F0'⟩ := stR.reads hm0
 have F0 := F0' fun n hn => by have := List.all_eq_true.1 hsz _ (DataW.weights_mem_each (j := 0) rfl rfl n hn); simpa using this
 obtain ⟨t1, rfl, rfl, rfl, z1⟩ := open_string Tryz.underlying9 (hval 1 9 v1 rfl rfl) h1
 obtain ⟨t2, rfl, rfl, rfl, z2⟩ := open_string Tryz.underlying9 (hval 2 9 v2 rfl rfl) h2
 obtain ⟨x3, len3, cap3, rfl⟩ := okWide_slice Tryz.underlying47 (hval 3 47 v3 rfl rfl)
 have k3 := h3
 have lt3 : ∀ x ∈ p3, x.block < W.heap.size := by obtain ⟨m, hm⟩ := k3; exact DataW.trod_lt m _ _ _ hm
 obtain ⟨m3, hm3⟩ := h3
 obtain ⟨s3, A3, F3'⟩ := bytesS.reads hm3
 have F3 := F3' fun n hn => by have := List.all_eq_true.1 hsz _ (DataW.weights_mem_each (j := 3) rfl rfl n hn); simpa using this
 clear hA0 hval0
 refine (walk us0 s0 t1 t2 x3 len3 cap3 s3 W A0 (fitsS_of F0) z1 z2 A3 hg).mono fun e W' ⟨he, bel⟩ => ?_
 subst he
 exact ⟨_, rfl, _, _, _, [], _, [], hW', trodAll_mk1 (shut_bool Tryz.underlying4 _), (trodAll_cons_mk (Below.trod laidOut (by kernel_rfl) (of_decide_eq_true (by kernel_rfl)) k0 bel lt0) (trodAll_cons_mk (shut_string Tryz.underlying9 z1) (trodAll_cons_mk (shut_string Tryz.underlying9 z2) (trodAll_cons_mk (Below.trod laidOut (by kernel_rfl) (of_decide_eq_true (by kernel_rfl)) k3 bel lt3) trodAll_mk0)))), rfl, bel.frame _, fun h => by cases h⟩
theorem reads (os : Os) {H : Type} (enc : TypeId × Value → H) : ∃ places, DataW.whole enc Tryz.prog ((laidOf (World.holding Tryz.prog os ⟨#[], #[], []⟩)).forCall (fun _ _ => 0) ⟨#[], #[.agg #[.slice none 0 0, .int .i64 0], .string ⟨#[]⟩, .string ⟨#[]⟩, .slice none 0 0], []⟩).memory Tryz.f6.params.toList Rows.fsKeepsSpec.vars false (#[.agg #[.slice none 0 0, .int .i64 0], .string ⟨#[]⟩, .string ⟨#[]⟩, .slice none 0 0] : Array Value).toList 8 = some ([.agg [.nil, .lit (.int .i64 0)], .lit (.string []), .lit (.string []), .nil], [], places) :=
 ⟨[], by kernel_rfl⟩
theorem lifted (os : Os) (started : os.Started) (H : Type) (enc : TypeId × Value → H) (F : Stop.Interp) :
   ReturnsInHanded {} Tryz.checked os 6 .any ((OpenSpec.ofChange Rows.fsKeepsSpec).preRow enc Tryz.prog Tryz.f6 Rows.fsKeepsRow.domain false Rows.fsKeepsRow.laid) (((OpenSpec.ofChange Rows.fsKeepsSpec).at F).post enc Tryz.prog Tryz.f6 false true false false) := by
 obtain ⟨places, hx⟩ := reads os enc
 refine returnsInHanded_of_row (C := Tryz.checked) (s := (OpenSpec.ofChange Rows.fsKeepsSpec)) own started (by kernel_rfl) Tryz.func6
   (witness_row_at (enc := enc) (C := Tryz.checked) false (laidOf (World.holding Tryz.prog os ⟨#[], #[], []⟩)) #[.agg #[.slice none 0 0, .int .i64 0], .string ⟨#[]⟩, .string ⟨#[]⟩, .slice none 0 0] rfl (by kernel_rfl) (by kernel_rfl) (by kernel_rfl)
     (OpenSpec.preRow_of_cond 8 hx (by kernel_rfl) (fun k hk => by cases hk) (by kernel_rfl) (laidWorld_met os _))) ?_
 intro W base args ds gs before hval hW _ _ hsz hL _ _
 exact contract H enc W base args ds gs before hval hW hsz (handle_of_laid hL)
theorem said : Rows.FsKeepsSaid :=
 OpenClaim.holds_of_cond 6 Tryz.f6 rfl rfl rfl rfl rfl rfl rfl ⟨rfl, rfl, rfl, rfl, rfl⟩ rfl rfl rfl rfl rfl (by kernel_rfl) Tryz.func6 (by kernel_rfl)
   (of_decide_eq_true (by kernel_rfl)) (by unfold Func.isWrapper; first | (rw [if_pos (by decide +kernel)]; kernel_rfl) | (rw [if_neg (by decide +kernel)]; exact ⟨rfl, rfl⟩))
   (fun os started H enc _ F => by rw [OpenClaim.pre_eq_preRow]; exact lifted os started H enc F)
theorem plain (f : FuncId) (fn : Func) (hf : Tryz.pinned.checked.prog.funcNamed Tryz.f6.name = some f) (hfn : Tryz.pinned.checked.prog.funcs[f]? = some fn) :
   true = Tryz.pinned.checked.prog.looks [] ∧ ∀ (j : Nat) t, fn.params[j]? = some t → Tryz.pinned.checked.prog.wantsStandIn t = false := by
 obtain rfl : f = 6 := Option.some.inj ((show Tryz.prog.funcNamed Tryz.f6.name = some 6 by kernel_rfl).symm.trans hf) |>.symm
 obtain rfl : fn = Tryz.f6 := (Option.some.inj (Tryz.func6.symm.trans hfn)).symm
 refine ⟨by kernel_rfl, fun j t ht => ?_⟩
 rw [Tryz.params6] at ht
 have hm := Array.mem_of_getElem? ht
 simp only [List.mem_toArray, List.mem_cons, List.not_mem_nil, or_false] at hm
 rcases hm with rfl | rfl | rfl | rfl
 · exact (show Tryz.prog.wantsStandIn 24 = false by kernel_rfl)
 · exact (show Tryz.prog.wantsStandIn 9 = false by kernel_rfl)
 · exact (show Tryz.prog.wantsStandIn 9 = false by kernel_rfl)
 · exact (show Tryz.prog.wantsStandIn 47 = false by kernel_rfl)
theorem card : Rows.FsKeepsCardSaid :=
 Claim7.holds_tied_plain_at .later [] _ _ _ _ said (fun _ h => by cases h) (by kernel_rfl) (fun _ h => by cases h) fsKeeps_row_tie rfl ⟨rfl, rfl⟩ (by kernel_rfl) rfl plain (by kernel_rfl)
end Go.Proofs.YtkcnephbaffmbaaGreatDoor.fsKeeps
namespace Go.Proofs.YtkcnephbaffmbaaGreatDoor
theorem fsKeeps_holds : Rows.FsKeepsCardSaid := fsKeeps.card
#print axioms fsKeeps_holds
end Go.Proofs.YtkcnephbaffmbaaGreatDoor
