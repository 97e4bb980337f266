/-
  FsFiles, proved: for every state of the document, every path, every two numbers and all octets (as great as the form reads them): the call returns true, and changes nothing that was in memory; the one listed variable (the handle of the type of errors) starts as the program's text lays it, which the card ties.
-/
import Derived.Test.YtkcnephbaffmbaaGreatDoorJ49
import Derived.Test.YtkcnephbaffmbaaGreatDoorCards
import Derived.Test.YtkcnephbaffmbaaGreatDoorTie
import Derived.Deep.DeepHandedRow
import Derived.ChangeMaps5
set_option maxRecDepth 100000
set_option maxHeartbeats 32000000
namespace Go.Proofs.YtkcnephbaffmbaaGreatDoor.fsFiles
open Go.ChangeShapes Go.WideShapes Go.ChangeAt Go.RowKit Go.ChangeMaps
open P (serr sval ArgT OwnT)
set_option linter.unusedVariables false
theorem read_one {s : St} {p : ByteArray} {off m k k2 : Int} {O O2 : List Int} (h : Readed s p off m O k) (h2 : Readed s p off m O2 k2) : O = O2 ∧ k = k2 := by
 rcases h with ⟨a, b, c⟩ | ⟨a, b, c, d⟩ | ⟨a, b, c, d⟩ <;> rcases h2 with ⟨a2, b2, c2⟩ | ⟨a2, b2, c2, d2⟩ | ⟨a2, b2, c2, d2⟩
 all_goals first
   | exact absurd a2 a
   | exact absurd a a2
   | exact absurd b b2
   | exact absurd b2 b
   | exact ⟨by rw [b, b2], by rw [c, c2]⟩
   | exact ⟨by rw [c, c2], by rw [d, d2]⟩
theorem list_one {s : St} {p : ByteArray} {k k2 : Int} {O O2 : List ByteArray} (h : Listed s p O k) (h2 : Listed s p O2 k2) : O = O2 ∧ k = k2 := by
 rcases h with ⟨a, b, c⟩ | ⟨a, b, c, d⟩ | ⟨a, b, c, d⟩ <;> rcases h2 with ⟨a2, b2, c2⟩ | ⟨a2, b2, c2, d2⟩ | ⟨a2, b2, c2, d2⟩
 all_goals first
   | exact absurd a2 a
   | exact absurd a a2
   | exact absurd b b2
   | exact absurd b2 b
   | exact ⟨by rw [b, b2], by rw [c, c2]⟩
   | exact ⟨by rw [c, c2], by rw [d, d2]⟩
theorem stat_one {s : St} {p : ByteArray} {k k2 : Int} {O O2 : Nd} (h : Stated s p O k) (h2 : Stated s p O2 k2) : O = O2 ∧ k = k2 := by
 rcases h with ⟨a, b, c⟩ | ⟨a, b, c, d⟩ | ⟨a, b, c, d⟩ <;> rcases h2 with ⟨a2, b2, c2⟩ | ⟨a2, b2, c2, d2⟩ | ⟨a2, b2, c2, d2⟩
 all_goals first
   | exact absurd a2 a
   | exact absurd a a2
   | exact absurd b b2
   | exact absurd b2 b
   | exact ⟨by rw [b, b2], by rw [c, c2]⟩
   | exact ⟨by rw [c, c2], by rw [d, d2]⟩
theorem same_t {n1 n2 : Nat} {v1 v2 : Value} {l : List Int} {w : World} (h1 : Arg n1 w v1 l) (h2 : Arg n2 w v2 l) : Calls Tryz.prog 38 #[v1, v2] w fun e w' => e = .returned (.bool true) ∧ Below w.heap.size w w' := by
 refine (F.same_any n1 n2 v1 v2 l l w h1 h2).mono fun e w' h => ?_
 obtain ⟨h3, q, rfl⟩ := h
 exact ⟨by rw [h3]; simp, below_drewN (Below.refl _ _) q⟩
theorem texts_t {n1 n2 : Nat} {v1 v2 : Value} {l : List ByteArray} {w : World} (h1 : ArgT n1 w v1 l) (h2 : ArgT n2 w v2 l) : Calls Tryz.prog 39 #[v1, v2] w fun e w' => e = .returned (.bool true) ∧ Below w.heap.size w w' := by
 refine (P.same_any n1 n2 v1 v2 l l w h1 h2).mono fun e w' h => ?_
 obtain ⟨h3, q, rfl⟩ := h
 exact ⟨by rw [h3]; simp, below_drewN (Below.refl _ _) q⟩
theorem walk (us : List Value) (s : St) (p : ByteArray) (off m : Int) (da : Option Addr) (dn dc : Nat) (d : List Int) (w : World) (hA : stR.lies 0 w us s) (hF : FitsS s.1) (hp : p.size ≤ maxLen) (ho : I64 off) (hmI : I64 m) (hD : bytesS.lies 0 w [.slice da dn dc] d) (hDF : bytesS.fits d) (hg : Glob w) :
   Calls Tryz.prog 5 #[.agg us.toArray, .string p, .int .i64 off, .int .i64 m, .slice da dn dc] w fun e w' => e = .returned (.bool true) ∧ Below w.heap.size w w' := by
 obtain ⟨a, c, rfl, hs, hI, hm⟩ := st_viewR hA
 obtain ⟨l, nx⟩ := s
 have hDA : Arg 0 w (.slice da dn dc) d := hD
 obtain ⟨da', dc', hde, -, hdm, -⟩ := hDA.shape
 obtain ⟨rfl, rfl, rfl⟩ := Value.slice.inj hde
 simp only at hs hI hm hF ⊢
 obtain ⟨n, hn⟩ := exa (l.length)
 obtain ⟨dl, hdl⟩ := exa (d.length)
 rw [← hdl] at hDA ⊢
 have HRD : Hid (∀ V, Below w.heap.size w V → (Calls Tryz.prog 31 #[.agg #[.slice a n c, .int .i64 nx], .string p, .int .i64 off, .slice da dl dc] V (FlatRW w.heap.size dl (Told (l, nx) [p] (rwE (l, nx) (sval p) (F.wrE (fi (tgt (l, nx) (sval p))) off d)) (filN (l, nx) (tgt (l, nx) (sval p)) (F.wrF (fi (tgt (l, nx) (sval p))) off d))) V)) ∧
     (Calls Tryz.prog 33 #[.agg #[.slice a n c, .int .i64 nx], .string p, .int .i64 m] V (FlatR w.heap.size (Told (l, nx) [p] (rwE (l, nx) (sval p) (F.trE (fi (tgt (l, nx) (sval p))) m)) (filN (l, nx) (tgt (l, nx) (sval p)) (F.trF (fi (tgt (l, nx) (sval p))) m))) V)) ∧
     (Calls Tryz.prog 35 #[.agg #[.slice a n c, .int .i64 nx], .string p, .int .i64 off, .int .i64 m] V fun e w' => (∃ v O k, e = .returned (.tuple #[v, .int .i64 k]) ∧ Arg V.heap.size w' v O ∧ Readed (l, nx) p off m O k) ∧ Below V.heap.size V w') ∧
     (Calls Tryz.prog 37 #[.agg #[.slice a n c, .int .i64 nx], .string p] V fun e w' => (∃ v O k, e = .returned (.tuple #[v, .int .i64 k]) ∧ OwnT V.heap.size w' v O ∧ Listed (l, nx) p O k) ∧ Below V.heap.size V w') ∧
     (Calls Tryz.prog 41 #[.agg #[.slice a n c, .int .i64 nx], .string p] V fun e w' => (∃ N k, e = .returned (.tuple #[.int .i64 N.1, .bool (isD N), .int .i64 ((fi N).1 + ((en N).length : Int)), .int .i64 (lk N), .int .i64 k]) ∧ Stated (l, nx) p N k) ∧ Below V.heap.size V w')) := fun V hV => by
   rw [hn]
   exact ⟨rWrite_any 0 w a c (l, nx) p off ho da dl dc d 0 V hV hs hF (hDA.below hV), rTruncate_any 0 w a c (l, nx) p m hmI V hV hs hF, rRead_any 0 a c (l, nx) p off m ho hmI V (ndsR.below hs hV) hF, rList_any 0 a c (l, nx) p V (ndsR.below hs hV) hF, rStat_any 0 a c (l, nx) p V (ndsR.below hs hV) hF⟩
 rw [← hn] at hs hm ⊢
 unfold maxLen at hm
 have HG : Hid (∀ V, Below w.heap.size w V → Glob V) := fun V hV => hg.below hV hg.lt
 have H0 : Hid (ndsR.lies 0 w [.slice a n c] l ∧ n = l.length ∧ FitsS l ∧ p.size ≤ maxLen ∧ Arg 0 w (.slice da dl dc) d ∧ dl = d.length ∧ I64 off ∧ I64 m ∧ bytesS.fits d) := ⟨hs, hn, hF, hp, hDA, hdl, ho, hmI, hDF⟩
 obtain ⟨V0, hV0⟩ := exa (w.alloc (.cells #[.slice a n c, .int .i64 nx] 24))
 have HB0 : Hid (Below w.heap.size w V0 ∧ Box V0 w.heap.size 24 #[.slice a n c, .int .i64 nx]) := ⟨by rw [hV0]; exact (Below.refl _ w).alloc (Nat.le_refl _) _, by rw [hV0]; exact Box.new _ _ _⟩
 clear hA hs hn hF hp hI hg ho hmI hD hDA hde hdl hdm hDF
 have HC1 := of_f (nx := nx) H0.out.2.1 (ndsR.below H0.out.1 HB0.out.1) H0.out.2.2.1
 go_enter Tryz.func5, Tryz.ntmps5
 obtain ⟨b0c0, b0c1, -, -⟩ := HB0.out.2.two
 rw [hV0] at b0c0 b0c1
 go_wp2_with fail
 rw [← hV0]
 clear b0c0 b0c1 hV0
 refine HC1.mono ?_
 rintro e w1 ⟨⟨a1, c1, rfl, ho1⟩, hb1⟩
 have HL1 : Hid (Below V0.heap.size V0 w1 ∧ ndsN.lies V0.heap.size w1 [.slice a1 n c1] l) := ⟨hb1, ndsN.olies ho1⟩
 clear hb1 ho1 HC1
 have HC2 := F.copy_any 0 (.slice da dl dc) d w1 (H0.out.2.2.2.2.1.below (below_any HB0.out.1 HL1.out.1)) (by have h9 : d.length * Tryz.prog.bytesOf 5 ≤ 140737488351232 := H0.out.2.2.2.2.2.2.2.2; have b5 : Tryz.prog.bytesOf 5 = 1 := (by kernel_rfl); rw [b5] at h9; omega)
 go_wp2_with fail
 refine HC2.mono ?_
 rintro e w2 ⟨⟨v2, rfl, ho2⟩, hb2⟩
 obtain ⟨a2, c2, rfl⟩ := ho2.shape
 have hdl2 := H0.out.2.2.2.2.2.1
 rw [← hdl2] at ho2 ⊢
 clear hdl2
 obtain ⟨V2, hV2⟩ := exa (w2.alloc (.cells #[.slice a1 n c1, .int .i64 nx] 27))
 have hbV2 : Below w2.heap.size w2 V2 := by rw [hV2]; exact (Below.refl _ w2).alloc (Nat.le_refl _) _
 have HB2 : Hid (Below w1.heap.size w1 V2 ∧ Box V2 w2.heap.size 27 #[.slice a1 n c1, .int .i64 nx] ∧ ndsN.lies V0.heap.size V2 [.slice a1 n c1] l ∧ Arg w1.heap.size V2 (.slice a2 dl c2) d) := ⟨below_any hb2 hbV2, by rw [hV2]; exact Box.new _ _ _, ndsN.below (ndsN.below HL1.out.2 hb2) hbV2, ho2.arg.below hbV2⟩
 clear hb2 hbV2 ho2 HC2
 have HC3 := write_f (nx := nx) H0.out.2.1 H0.out.2.2.2.1 H0.out.2.2.2.2.2.2.1 H0.out.2.2.2.2.2.1 (HB2.out.2.2.2.below (Below.refl _ V2)) (ndsN.below HB2.out.2.2.1 (Below.refl _ V2)) (HG.out _ (below_any (below_any HB0.out.1 HL1.out.1) HB2.out.1))
 obtain ⟨b2c0, b2c1, -, -⟩ := HB2.out.2.1.two
 rw [hV2] at b2c0 b2c1
 go_wp2_with fail
 rw [← hV2]
 clear b2c0 b2c1 hV2
 refine HC3.mono ?_
 rintro e w3 ⟨⟨k3, m3, l3, x3, n3, a3, c3, rfl, hn3, hl3, ht3, hm3⟩, hb3⟩
 obtain ⟨V3, hV3⟩ := exa (w3.alloc (.cells #[.slice a3 n3 c3, .int .i64 x3] 27))
 have hbV3 : Below w3.heap.size w3 V3 := by rw [hV3]; exact (Below.refl _ w3).alloc (Nat.le_refl _) _
 have HB3 : Hid (Below V2.heap.size V2 V3 ∧ Box V3 w3.heap.size 27 #[.slice a3 n3 c3, .int .i64 x3] ∧ ndsN.lies V2.heap.size V3 [.slice a3 n3 c3] l3 ∧ n3 = l3.length ∧ Told (l, nx) [p] (rwE (l, nx) (sval p) (F.wrE (fi (tgt (l, nx) (sval p))) off d)) (filN (l, nx) (tgt (l, nx) (sval p)) (F.wrF (fi (tgt (l, nx) (sval p))) off d)) k3 (l3, x3) ∧ ((k3 = 0 ∧ m3 = dl) ∨ (k3 ≠ 0 ∧ m3 = 0))) := ⟨below_any hb3 hbV3, by rw [hV3]; exact Box.new _ _ _, ndsN.below hl3 hbV3, hn3, ht3, hm3⟩
 clear hb3 hbV3 hl3 hn3 ht3 hm3 HC3
 have HC4 := (HRD.out V3 (below_any (below_any (below_any HB0.out.1 HL1.out.1) HB2.out.1) HB3.out.1)).1
 obtain ⟨b0c0, b0c1, -, -⟩ := ((HB0.out.2).below (below_any (below_any HL1.out.1 HB2.out.1) HB3.out.1) (HB0.out.2).lt).two
 rw [hV3] at b0c0 b0c1
 go_wp2_with fail
 rw [← hV3]
 clear b0c0 b0c1 hV3
 refine HC4.mono ?_
 rintro e w4 ⟨⟨k4, m4, l4, x4, n4, a4, c4, rfl, hn4, hl4, ht4, hm4⟩, hb4⟩
 obtain ⟨rfl, heq4⟩ := HB3.out.2.2.2.2.1.one ht4
 obtain ⟨e1, e2⟩ := Prod.mk.inj heq4
 subst e1 e2
 obtain rfl : m3 = m4 := by (
 rcases HB3.out.2.2.2.2.2 with ⟨h1, h2⟩ | ⟨h1, h2⟩ <;> rcases hm4 with ⟨h3, h4⟩ | ⟨h3, h4⟩
 · rw [h2, h4]
 · exact absurd h1 h3
 · exact absurd h3 h1
 · rw [h2, h4])
 have hl4 := hl4.lie
 obtain ⟨V4, hV4⟩ := exa (w4.alloc (.cells #[.slice a4 n4 c4, .int .i64 x3] 24))
 have hbV4 : Below w4.heap.size w4 V4 := by rw [hV4]; exact (Below.refl _ w4).alloc (Nat.le_refl _) _
 have HB4 : Hid (Below V3.heap.size V3 V4 ∧ Box V4 w4.heap.size 24 #[.slice a4 n4 c4, .int .i64 x3] ∧ ndsR.lies 0 V4 [.slice a4 n4 c4] l3 ∧ n4 = l3.length) := ⟨below_any hb4 hbV4, by rw [hV4]; exact Box.new _ _ _, ndsR.below hl4 hbV4, hn4⟩
 clear hb4 hbV4 hl4 hn4 ht4 hm4 HC4 heq4
 have HC5 := trunc_f (nx := nx) H0.out.2.1 H0.out.2.2.2.1 H0.out.2.2.2.2.2.2.2.1 (ndsN.below HB2.out.2.2.1 (below_any HB3.out.1 HB4.out.1)) (HG.out _ (below_any (below_any (below_any (below_any HB0.out.1 HL1.out.1) HB2.out.1) HB3.out.1) HB4.out.1))
 obtain ⟨b2c0, b2c1, -, -⟩ := ((HB2.out.2.1).below (below_any HB3.out.1 HB4.out.1) (HB2.out.2.1).lt).two
 rw [hV4] at b2c0 b2c1
 go_wp2_with fail
 rw [← hV4]
 clear b2c0 b2c1 hV4
 refine HC5.mono ?_
 rintro e w5 ⟨⟨k5, l5, x5, n5, a5, c5, rfl, hn5, hl5, ht5⟩, hb5⟩
 obtain ⟨V5, hV5⟩ := exa (w5.alloc (.cells #[.slice a5 n5 c5, .int .i64 x5] 27))
 have hbV5 : Below w5.heap.size w5 V5 := by rw [hV5]; exact (Below.refl _ w5).alloc (Nat.le_refl _) _
 have HB5 : Hid (Below V4.heap.size V4 V5 ∧ Box V5 w5.heap.size 27 #[.slice a5 n5 c5, .int .i64 x5] ∧ ndsN.lies V4.heap.size V5 [.slice a5 n5 c5] l5 ∧ n5 = l5.length ∧ Told (l, nx) [p] (rwE (l, nx) (sval p) (F.trE (fi (tgt (l, nx) (sval p))) m)) (filN (l, nx) (tgt (l, nx) (sval p)) (F.trF (fi (tgt (l, nx) (sval p))) m)) k5 (l5, x5)) := ⟨below_any hb5 hbV5, by rw [hV5]; exact Box.new _ _ _, ndsN.below hl5 hbV5, hn5, ht5⟩
 clear hb5 hbV5 hl5 hn5 ht5 HC5
 have HC6 := (HRD.out V5 (below_any (below_any (below_any (below_any (below_any HB0.out.1 HL1.out.1) HB2.out.1) HB3.out.1) HB4.out.1) HB5.out.1)).2.1
 obtain ⟨b0c0, b0c1, -, -⟩ := ((HB0.out.2).below (below_any (below_any (below_any (below_any HL1.out.1 HB2.out.1) HB3.out.1) HB4.out.1) HB5.out.1) (HB0.out.2).lt).two
 rw [hV5] at b0c0 b0c1
 go_wp2_with fail
 rw [← hV5]
 clear b0c0 b0c1 hV5
 refine HC6.mono ?_
 rintro e w6 ⟨⟨k6, l6, x6, n6, a6, c6, rfl, hn6, hl6, ht6⟩, hb6⟩
 obtain ⟨rfl, heq6⟩ := HB5.out.2.2.2.2.one ht6
 obtain ⟨e1, e2⟩ := Prod.mk.inj heq6
 subst e1 e2
 have hl6 := hl6.lie
 obtain ⟨V6, hV6⟩ := exa (w6.alloc (.cells #[.slice a6 n6 c6, .int .i64 x5] 24))
 have hbV6 : Below w6.heap.size w6 V6 := by rw [hV6]; exact (Below.refl _ w6).alloc (Nat.le_refl _) _
 have HB6 : Hid (Below V5.heap.size V5 V6 ∧ Box V6 w6.heap.size 24 #[.slice a6 n6 c6, .int .i64 x5] ∧ ndsR.lies 0 V6 [.slice a6 n6 c6] l5 ∧ n6 = l5.length) := ⟨below_any hb6 hbV6, by rw [hV6]; exact Box.new _ _ _, ndsR.below hl6 hbV6, hn6⟩
 clear hb6 hbV6 hl6 hn6 ht6 HC6 heq6
 have HC7 := read_f (nx := nx) H0.out.2.1 H0.out.2.2.2.1 H0.out.2.2.2.2.2.2.1 H0.out.2.2.2.2.2.2.2.1 (ndsN.below HB2.out.2.2.1 (below_any (below_any (below_any HB3.out.1 HB4.out.1) HB5.out.1) HB6.out.1)) (HG.out _ (below_any (below_any (below_any (below_any (below_any (below_any HB0.out.1 HL1.out.1) HB2.out.1) HB3.out.1) HB4.out.1) HB5.out.1) HB6.out.1))
 obtain ⟨b2c0, b2c1, -, -⟩ := ((HB2.out.2.1).below (below_any (below_any (below_any HB3.out.1 HB4.out.1) HB5.out.1) HB6.out.1) (HB2.out.2.1).lt).two
 rw [hV6] at b2c0 b2c1
 go_wp2_with fail
 rw [← hV6]
 clear b2c0 b2c1 hV6
 refine HC7.mono ?_
 rintro e w7 ⟨⟨v7, O7, k7, rfl, hv7, hr7⟩, hb7⟩
 have HL7 : Hid (Below V6.heap.size V6 w7 ∧ Arg V6.heap.size w7 v7 O7 ∧ Readed (l, nx) p off m O7 k7) := ⟨hb7, hv7, hr7⟩
 clear hb7 hv7 hr7 HC7
 have HC8 := (HRD.out w7 (below_any (below_any (below_any (below_any (below_any (below_any (below_any HB0.out.1 HL1.out.1) HB2.out.1) HB3.out.1) HB4.out.1) HB5.out.1) HB6.out.1) HL7.out.1)).2.2.1
 obtain ⟨b0c0, b0c1, -, -⟩ := ((HB0.out.2).below (below_any (below_any (below_any (below_any (below_any (below_any HL1.out.1 HB2.out.1) HB3.out.1) HB4.out.1) HB5.out.1) HB6.out.1) HL7.out.1) (HB0.out.2).lt).two
 go_wp2_with fail
 clear b0c0 b0c1
 refine HC8.mono ?_
 rintro e w8 ⟨⟨v8, O8, k8, rfl, hv8, hr8⟩, hb8⟩
 obtain ⟨rfl, rfl⟩ := read_one HL7.out.2.2 hr8
 have HL8 : Hid (Below w7.heap.size w7 w8 ∧ Arg w7.heap.size w8 v8 O7) := ⟨hb8, hv8⟩
 clear hb8 hv8 hr8 HC8
 have HC9 := list_f (nx := nx) H0.out.2.1 H0.out.2.2.2.1 (ndsN.below HB2.out.2.2.1 (below_any (below_any (below_any (below_any (below_any HB3.out.1 HB4.out.1) HB5.out.1) HB6.out.1) HL7.out.1) HL8.out.1)) (HG.out _ (below_any (below_any (below_any (below_any (below_any (below_any (below_any (below_any HB0.out.1 HL1.out.1) HB2.out.1) HB3.out.1) HB4.out.1) HB5.out.1) HB6.out.1) HL7.out.1) HL8.out.1))
 obtain ⟨b2c0, b2c1, -, -⟩ := ((HB2.out.2.1).below (below_any (below_any (below_any (below_any (below_any HB3.out.1 HB4.out.1) HB5.out.1) HB6.out.1) HL7.out.1) HL8.out.1) (HB2.out.2.1).lt).two
 go_wp2_with fail
 clear b2c0 b2c1
 refine HC9.mono ?_
 rintro e w9 ⟨⟨v9, O9, k9, rfl, hv9, hr9⟩, hb9⟩
 have HL9 : Hid (Below w8.heap.size w8 w9 ∧ OwnT w8.heap.size w9 v9 O9 ∧ Listed (l, nx) p O9 k9) := ⟨hb9, hv9, hr9⟩
 clear hb9 hv9 hr9 HC9
 have HC10 := (HRD.out w9 (below_any (below_any (below_any (below_any (below_any (below_any (below_any (below_any (below_any HB0.out.1 HL1.out.1) HB2.out.1) HB3.out.1) HB4.out.1) HB5.out.1) HB6.out.1) HL7.out.1) HL8.out.1) HL9.out.1)).2.2.2.1
 obtain ⟨b0c0, b0c1, -, -⟩ := ((HB0.out.2).below (below_any (below_any (below_any (below_any (below_any (below_any (below_any (below_any HL1.out.1 HB2.out.1) HB3.out.1) HB4.out.1) HB5.out.1) HB6.out.1) HL7.out.1) HL8.out.1) HL9.out.1) (HB0.out.2).lt).two
 go_wp2_with fail
 clear b0c0 b0c1
 refine HC10.mono ?_
 rintro e w10 ⟨⟨v10, O10, k10, rfl, hv10, hr10⟩, hb10⟩
 obtain ⟨rfl, rfl⟩ := list_one HL9.out.2.2 hr10
 have HL10 : Hid (Below w9.heap.size w9 w10 ∧ OwnT w9.heap.size w10 v10 O9) := ⟨hb10, hv10⟩
 clear hb10 hv10 hr10 HC10
 have HC11 := alike_f (nx := x3) HB3.out.2.2.2.1 HB4.out.2.2.2 (ndsN.below HB3.out.2.2.1 (below_any (below_any (below_any (below_any (below_any (below_any HB4.out.1 HB5.out.1) HB6.out.1) HL7.out.1) HL8.out.1) HL9.out.1) HL10.out.1)) (ndsR.below HB4.out.2.2.1 (below_any (below_any (below_any (below_any (below_any HB5.out.1 HB6.out.1) HL7.out.1) HL8.out.1) HL9.out.1) HL10.out.1))
 obtain ⟨b3c0, b3c1, -, -⟩ := ((HB3.out.2.1).below (below_any (below_any (below_any (below_any (below_any (below_any HB4.out.1 HB5.out.1) HB6.out.1) HL7.out.1) HL8.out.1) HL9.out.1) HL10.out.1) (HB3.out.2.1).lt).two
 obtain ⟨b4c0, b4c1, -, -⟩ := ((HB4.out.2.1).below (below_any (below_any (below_any (below_any (below_any HB5.out.1 HB6.out.1) HL7.out.1) HL8.out.1) HL9.out.1) HL10.out.1) (HB4.out.2.1).lt).two
 go_wp2_with fail
 clear b3c0 b3c1 b4c0 b4c1
 refine HC11.mono ?_
 rintro e w11 ⟨rfl, hb11⟩
 have HL11 : Hid (Below w10.heap.size w10 w11) := hb11
 clear hb11 HC11
 have HC12 := alike_f (nx := x5) HB5.out.2.2.2.1 HB6.out.2.2.2 (ndsN.below HB5.out.2.2.1 (below_any (below_any (below_any (below_any (below_any HB6.out.1 HL7.out.1) HL8.out.1) HL9.out.1) HL10.out.1) HL11.out)) (ndsR.below HB6.out.2.2.1 (below_any (below_any (below_any (below_any HL7.out.1 HL8.out.1) HL9.out.1) HL10.out.1) HL11.out))
 obtain ⟨b5c0, b5c1, -, -⟩ := ((HB5.out.2.1).below (below_any (below_any (below_any (below_any (below_any HB6.out.1 HL7.out.1) HL8.out.1) HL9.out.1) HL10.out.1) HL11.out) (HB5.out.2.1).lt).two
 obtain ⟨b6c0, b6c1, -, -⟩ := ((HB6.out.2.1).below (below_any (below_any (below_any (below_any HL7.out.1 HL8.out.1) HL9.out.1) HL10.out.1) HL11.out) (HB6.out.2.1).lt).two
 go_wp2_with (go_at_call 20; refine (num10_any _ _).mono ?_; rintro e v ⟨rfl, rfl⟩)
 clear b5c0 b5c1 b6c0 b6c1
 refine HC12.mono ?_
 rintro e w12 ⟨rfl, hb12⟩
 have HL12 : Hid (Below w11.heap.size w11 w12) := hb12
 clear hb12 HC12
 have HC13 := same_t (HL7.out.2.1.below (below_any (below_any (below_any (below_any HL8.out.1 HL9.out.1) HL10.out.1) HL11.out) HL12.out)) (HL8.out.2.below (below_any (below_any (below_any HL9.out.1 HL10.out.1) HL11.out) HL12.out))
 go_wp2_with (go_at_call 20; refine (num10_any _ _).mono ?_; rintro e v ⟨rfl, rfl⟩)
 refine HC13.mono ?_
 rintro e w13 ⟨rfl, hb13⟩
 have HL13 : Hid (Below w12.heap.size w12 w13) := hb13
 clear hb13 HC13
 have HC14 := texts_t (HL9.out.2.1.arg.below (below_any (below_any (below_any HL10.out.1 HL11.out) HL12.out) HL13.out)) (HL10.out.2.arg.below (below_any (below_any HL11.out HL12.out) HL13.out))
 go_wp2_with (go_at_call 20; refine (num10_any _ _).mono ?_; rintro e v ⟨rfl, rfl⟩)
 refine HC14.mono ?_
 rintro e w14 ⟨rfl, hb14⟩
 have HL14 : Hid (Below w13.heap.size w13 w14) := hb14
 clear hb14 HC14
 have HC15 := stat_f (nx := nx) H0.out.2.1 H0.out.2.2.2.1 (ndsN.below HB2.out.2.2.1 (below_any (below_any (below_any (below_any (below_any (below_any (below_any (below_any (below_any (below_any (below_any HB3.out.1 HB4.out.1) HB5.out.1) HB6.out.1) HL7.out.1) HL8.out.1) HL9.out.1) HL10.out.1) HL11.out) HL12.out) HL13.out) HL14.out)) (HG.out _ (below_any (below_any (below_any (below_any (below_any (below_any (below_any (below_any (below_any (below_any (below_any (below_any (below_any (below_any HB0.out.1 HL1.out.1) HB2.out.1) HB3.out.1) HB4.out.1) HB5.out.1) HB6.out.1) HL7.out.1) HL8.out.1) HL9.out.1) HL10.out.1) HL11.out) HL12.out) HL13.out) HL14.out))
 obtain ⟨b2c0, b2c1, -, -⟩ := ((HB2.out.2.1).below (below_any (below_any (below_any (below_any (below_any (below_any (below_any (below_any (below_any (below_any (below_any HB3.out.1 HB4.out.1) HB5.out.1) HB6.out.1) HL7.out.1) HL8.out.1) HL9.out.1) HL10.out.1) HL11.out) HL12.out) HL13.out) HL14.out) (HB2.out.2.1).lt).two
 go_wp2_with (go_at_call 20; refine (num10_any _ _).mono ?_; rintro e v ⟨rfl, rfl⟩)
 clear b2c0 b2c1
 refine HC15.mono ?_
 rintro e w15 ⟨⟨N15, k15, rfl, hr15⟩, hb15⟩
 have HL15 : Hid (Below w14.heap.size w14 w15 ∧ Stated (l, nx) p N15 k15) := ⟨hb15, hr15⟩
 clear hb15 hr15 HC15
 obtain ⟨t1, ht1⟩ := exa (N15.1)
 obtain ⟨t2, ht2⟩ := exa (isD N15)
 obtain ⟨t3, ht3⟩ := exa ((fi N15).1 + ((en N15).length : Int))
 obtain ⟨t4, ht4⟩ := exa (lk N15)
 have HTT : Hid (t1 = N15.1 ∧ t2 = isD N15 ∧ t3 = (fi N15).1 + ((en N15).length : Int) ∧ t4 = lk N15) := ⟨ht1, ht2, ht3, ht4⟩
 rw [← ht1, ← ht2, ← ht3, ← ht4]
 clear ht1 ht2 ht3 ht4
 have HC16 := (HRD.out w15 (below_any (below_any (below_any (below_any (below_any (below_any (below_any (below_any (below_any (below_any (below_any (below_any (below_any (below_any (below_any HB0.out.1 HL1.out.1) HB2.out.1) HB3.out.1) HB4.out.1) HB5.out.1) HB6.out.1) HL7.out.1) HL8.out.1) HL9.out.1) HL10.out.1) HL11.out) HL12.out) HL13.out) HL14.out) HL15.out.1)).2.2.2.2
 obtain ⟨b0c0, b0c1, -, -⟩ := ((HB0.out.2).below (below_any (below_any (below_any (below_any (below_any (below_any (below_any (below_any (below_any (below_any (below_any (below_any (below_any (below_any HL1.out.1 HB2.out.1) HB3.out.1) HB4.out.1) HB5.out.1) HB6.out.1) HL7.out.1) HL8.out.1) HL9.out.1) HL10.out.1) HL11.out) HL12.out) HL13.out) HL14.out) HL15.out.1) (HB0.out.2).lt).two
 go_wp2_with fail
 clear b0c0 b0c1
 refine HC16.mono ?_
 rintro e w16 ⟨⟨N16, k16, rfl, hr16⟩, hb16⟩
 obtain ⟨rfl, rfl⟩ := stat_one HL15.out.2 hr16
 rw [← HTT.out.1, ← HTT.out.2.1, ← HTT.out.2.2.1, ← HTT.out.2.2.2]
 have HL16 : Hid (Below w15.heap.size w15 w16) := hb16
 clear hb16 hr16 HC16
 have HC17 := alike_f (nx := nx) H0.out.2.1 H0.out.2.1 (ndsN.below HB2.out.2.2.1 (below_any (below_any (below_any (below_any (below_any (below_any (below_any (below_any (below_any (below_any (below_any (below_any (below_any HB3.out.1 HB4.out.1) HB5.out.1) HB6.out.1) HL7.out.1) HL8.out.1) HL9.out.1) HL10.out.1) HL11.out) HL12.out) HL13.out) HL14.out) HL15.out.1) HL16.out)) (ndsR.below H0.out.1 (below_any (below_any (below_any (below_any (below_any (below_any (below_any (below_any (below_any (below_any (below_any (below_any (below_any (below_any (below_any (below_any HB0.out.1 HL1.out.1) HB2.out.1) HB3.out.1) HB4.out.1) HB5.out.1) HB6.out.1) HL7.out.1) HL8.out.1) HL9.out.1) HL10.out.1) HL11.out) HL12.out) HL13.out) HL14.out) HL15.out.1) HL16.out))
 obtain ⟨b2c0, b2c1, -, -⟩ := ((HB2.out.2.1).below (below_any (below_any (below_any (below_any (below_any (below_any (below_any (below_any (below_any (below_any (below_any (below_any (below_any HB3.out.1 HB4.out.1) HB5.out.1) HB6.out.1) HL7.out.1) HL8.out.1) HL9.out.1) HL10.out.1) HL11.out) HL12.out) HL13.out) HL14.out) HL15.out.1) HL16.out) (HB2.out.2.1).lt).two
 obtain ⟨b0c0, b0c1, -, -⟩ := ((HB0.out.2).below (below_any (below_any (below_any (below_any (below_any (below_any (below_any (below_any (below_any (below_any (below_any (below_any (below_any (below_any (below_any HL1.out.1 HB2.out.1) HB3.out.1) HB4.out.1) HB5.out.1) HB6.out.1) HL7.out.1) HL8.out.1) HL9.out.1) HL10.out.1) HL11.out) HL12.out) HL13.out) HL14.out) HL15.out.1) HL16.out) (HB0.out.2).lt).two
 go_wp2_with (go_at_call 20; refine (num10_any _ _).mono ?_; rintro e v ⟨rfl, rfl⟩)
 clear b2c0 b2c1 b0c0 b0c1
 refine HC17.mono ?_
 rintro e w17 ⟨rfl, hb17⟩
 have HL17 : Hid (Below w16.heap.size w16 w17) := hb17
 clear hb17 HC17
 have HC18 := same_t (HB2.out.2.2.2.below (below_any (below_any (below_any (below_any (below_any (below_any (below_any (below_any (below_any (below_any (below_any (below_any (below_any (below_any HB3.out.1 HB4.out.1) HB5.out.1) HB6.out.1) HL7.out.1) HL8.out.1) HL9.out.1) HL10.out.1) HL11.out) HL12.out) HL13.out) HL14.out) HL15.out.1) HL16.out) HL17.out)) (H0.out.2.2.2.2.1.below (below_any (below_any (below_any (below_any (below_any (below_any (below_any (below_any (below_any (below_any (below_any (below_any (below_any (below_any (below_any (below_any (below_any HB0.out.1 HL1.out.1) HB2.out.1) HB3.out.1) HB4.out.1) HB5.out.1) HB6.out.1) HL7.out.1) HL8.out.1) HL9.out.1) HL10.out.1) HL11.out) HL12.out) HL13.out) HL14.out) HL15.out.1) HL16.out) HL17.out))
 go_wp2_with (go_at_call 20; refine (num10_any _ _).mono ?_; rintro e v ⟨rfl, rfl⟩)
 refine HC18.mono ?_
 rintro e w18 ⟨rfl, hb18⟩
 have HL18 : Hid (Below w17.heap.size w17 w18) := hb18
 clear hb18 HC18
 have HC19 := alive_any w18 (HG.out _ (below_any (below_any (below_any (below_any (below_any (below_any (below_any (below_any (below_any (below_any (below_any (below_any (below_any (below_any (below_any (below_any (below_any (below_any HB0.out.1 HL1.out.1) HB2.out.1) HB3.out.1) HB4.out.1) HB5.out.1) HB6.out.1) HL7.out.1) HL8.out.1) HL9.out.1) HL10.out.1) HL11.out) HL12.out) HL13.out) HL14.out) HL15.out.1) HL16.out) HL17.out) HL18.out))
 go_wp2_with (go_at_call 20; refine (num10_any _ _).mono ?_; rintro e v ⟨rfl, rfl⟩)
 refine HC19.mono ?_
 rintro e w19 ⟨rfl, hb19⟩
 have HL19 : Hid (Below w18.heap.size w18 w19) := hb19
 clear hb19 HC19
 have HZ : Hid (Below w.heap.size w w19) := (below_any (below_any (below_any (below_any (below_any (below_any (below_any (below_any (below_any (below_any (below_any (below_any (below_any (below_any (below_any (below_any (below_any (below_any (below_any HB0.out.1 HL1.out.1) HB2.out.1) HB3.out.1) HB4.out.1) HB5.out.1) HB6.out.1) HL7.out.1) HL8.out.1) HL9.out.1) HL10.out.1) HL11.out) HL12.out) HL13.out) HL14.out) HL15.out.1) HL16.out) HL17.out) HL18.out) HL19.out)
 go_wp2
 go_ret
 exact ⟨by simp, HZ.out⟩
 
theorem contract (H : Type) (enc : TypeId × Value → H) (W : World) (base : Nat) (args : Array Value) (ds gs : List (DataW H)) (before : List MemPlace)
   (hval0 : ∀ (j : Nat) t v, Tryz.f5.params[j]? = some t → args[j]? = some v → Value.okWide Tryz.prog W .any base t v)
   (hW : DataW.Whole enc Tryz.prog Tryz.f5.params.toList Rows.fsFilesSpec.vars false W args.toList ds gs before) 
   (hsz0 : (DataW.weightsEach Tryz.prog (Tryz.f5.params.toList ++ Rows.fsFilesSpec.plain.varTypes Tryz.prog) (ds ++ gs)).all (· ≤ reachBytes) = true) (hg : Glob W) :
   Calls Tryz.prog 5 args W fun e W' => ∃ v, e = .returned v ∧ Rows.fsFilesSpec.post enc Tryz.prog Tryz.f5 false true false false W args v W' := by
 have hval := hval0
 have hW' := hW
 obtain ⟨p, q, hA0, hV, rfl, hfz, hnd⟩ := hW
 have hA : DataW.TrodAll enc Tryz.prog W 0 (fun _ => true) true Tryz.f5.params.toList args.toList ds p := hA0
 have hsz := hsz0
 clear hsz0
 rw [Tryz.params5] at hA hval hsz
 obtain ⟨v0, vs0, d0, ds0, p0, q0, hargs, rfl, rfl, h0, r0⟩ := trodAll_cons hA
 obtain ⟨v1, vs1, d1, ds1, p1, q1, rfl, rfl, rfl, h1, r1⟩ := trodAll_cons r0
 obtain ⟨v2, vs2, d2, ds2, p2, q2, rfl, rfl, rfl, h2, r2⟩ := trodAll_cons r1
 obtain ⟨v3, vs3, d3, ds3, p3, q3, rfl, rfl, rfl, h3, r3⟩ := trodAll_cons r2
 obtain ⟨v4, vs4, d4, ds4, p4, q4, rfl, rfl, rfl, h4, r4⟩ := trodAll_cons r3
 obtain ⟨rfl, rfl, rfl⟩ := trodAll_nil r4
 obtain rfl : args = #[v0, v1, v2, v3, v4] := by cases args; simp_all
 obtain ⟨rfl, rfl⟩ := trodVars_none hV
 obtain ⟨cs0, rfl, hc0⟩ := okWide_struct Tryz.underlying24 (hval 0 24 v0 rfl rfl)
 obtain ⟨us0, rfl⟩ := as_list cs0
 have k0 := h0
 have lt0 : ∀ x ∈ p0, x.block < W.heap.size := by obtain ⟨m, hm⟩ := k0; exact DataW.trod_lt m _ _ _ hm
 obtain ⟨m0, hm0⟩ := h0
 obtain ⟨s0, A0, F0'⟩ := stR.reads hm0
 have F0 := F0' fun n hn => by have := List.all_eq_true.1 hsz _ (DataW.weights_mem_each (j := 0) rfl rfl n hn); simpa using this
 obtain ⟨t1, rfl, rfl, rfl, z1⟩ := open_string Tryz.underlying9 (hval 1 9 v1 rfl rfl) h1
 obtain ⟨a2, rfl, rfl, rfl, w2⟩ := open_int Tryz.underlying3 (hval 2 3 v2 rfl rfl) h2
 have b2 := bounds_i64 w2
 obtain ⟨a3, rfl, rfl, rfl, w3⟩ := open_int Tryz.underlying3 (hval 3 3 v3 rfl rfl) h3
 have b3 := bounds_i64 w3
 obtain ⟨x4, len4, cap4, rfl⟩ := okWide_slice Tryz.underlying47 (hval 4 47 v4 rfl rfl)
 have k4 := h4
 have lt4 : ∀ x ∈ p4, x.block < W.heap.size := by obtain ⟨m, hm⟩ := k4; exact DataW.trod_lt m _ _ _ hm
 obtain ⟨m4, hm4⟩ := h4
 obtain ⟨s4, A4, F4'⟩ := bytesS.reads hm4
 have F4 := F4' fun n hn => by have := List.all_eq_true.1 hsz _ (DataW.weights_mem_each (j := 4) rfl rfl n hn); simpa using this
 clear hA0 hval0
 refine (walk us0 s0 t1 a2 a3 x4 len4 cap4 s4 W A0 (fitsS_of F0) z1 b2 b3 A4 F4 hg).mono fun e W' ⟨he, bel⟩ => ?_
 subst he
 exact ⟨_, rfl, _, _, _, [], _, [], hW', trodAll_mk1 (shut_bool Tryz.underlying4 _), (trodAll_cons_mk (Below.trod laidOut (by kernel_rfl) (of_decide_eq_true (by kernel_rfl)) k0 bel lt0) (trodAll_cons_mk (shut_string Tryz.underlying9 z1) (trodAll_cons_mk (shut_int Tryz.underlying3 w2) (trodAll_cons_mk (shut_int Tryz.underlying3 w3) (trodAll_cons_mk (Below.trod laidOut (by kernel_rfl) (of_decide_eq_true (by kernel_rfl)) k4 bel lt4) trodAll_mk0))))), rfl, bel.frame _, fun h => by cases h⟩
theorem reads (os : Os) {H : Type} (enc : TypeId × Value → H) : ∃ places, DataW.whole enc Tryz.prog ((laidOf (World.holding Tryz.prog os ⟨#[], #[], []⟩)).forCall (fun _ _ => 0) ⟨#[], #[.agg #[.slice none 0 0, .int .i64 0], .string ⟨#[]⟩, .int .i64 0, .int .i64 0, .slice none 0 0], []⟩).memory Tryz.f5.params.toList Rows.fsFilesSpec.vars false (#[.agg #[.slice none 0 0, .int .i64 0], .string ⟨#[]⟩, .int .i64 0, .int .i64 0, .slice none 0 0] : Array Value).toList 8 = some ([.agg [.nil, .lit (.int .i64 0)], .lit (.string []), .lit (.int .i64 0), .lit (.int .i64 0), .nil], [], places) :=
 ⟨[], by kernel_rfl⟩
theorem lifted (os : Os) (started : os.Started) (H : Type) (enc : TypeId × Value → H) (F : Stop.Interp) :
   ReturnsInHanded {} Tryz.checked os 5 .any ((OpenSpec.ofChange Rows.fsFilesSpec).preRow enc Tryz.prog Tryz.f5 Rows.fsFilesRow.domain false Rows.fsFilesRow.laid) (((OpenSpec.ofChange Rows.fsFilesSpec).at F).post enc Tryz.prog Tryz.f5 false true false false) := by
 obtain ⟨places, hx⟩ := reads os enc
 refine returnsInHanded_of_row (C := Tryz.checked) (s := (OpenSpec.ofChange Rows.fsFilesSpec)) own started (by kernel_rfl) Tryz.func5
   (witness_row_at (enc := enc) (C := Tryz.checked) false (laidOf (World.holding Tryz.prog os ⟨#[], #[], []⟩)) #[.agg #[.slice none 0 0, .int .i64 0], .string ⟨#[]⟩, .int .i64 0, .int .i64 0, .slice none 0 0] rfl (by kernel_rfl) (by kernel_rfl) (by kernel_rfl)
     (OpenSpec.preRow_of_cond 8 hx (by kernel_rfl) (fun k hk => by cases hk) (by kernel_rfl) (laidWorld_met os _))) ?_
 intro W base args ds gs before hval hW _ _ hsz hL _ _
 exact contract H enc W base args ds gs before hval hW hsz (handle_of_laid hL)
theorem said : Rows.FsFilesSaid :=
 OpenClaim.holds_of_cond 5 Tryz.f5 rfl rfl rfl rfl rfl rfl rfl ⟨rfl, rfl, rfl, rfl, rfl⟩ rfl rfl rfl rfl rfl (by kernel_rfl) Tryz.func5 (by kernel_rfl)
   (of_decide_eq_true (by kernel_rfl)) (by unfold Func.isWrapper; first | (rw [if_pos (by decide +kernel)]; kernel_rfl) | (rw [if_neg (by decide +kernel)]; exact ⟨rfl, rfl⟩))
   (fun os started H enc _ F => by rw [OpenClaim.pre_eq_preRow]; exact lifted os started H enc F)
theorem plain (f : FuncId) (fn : Func) (hf : Tryz.pinned.checked.prog.funcNamed Tryz.f5.name = some f) (hfn : Tryz.pinned.checked.prog.funcs[f]? = some fn) :
   true = Tryz.pinned.checked.prog.looks [] ∧ ∀ (j : Nat) t, fn.params[j]? = some t → Tryz.pinned.checked.prog.wantsStandIn t = false := by
 obtain rfl : f = 5 := Option.some.inj ((show Tryz.prog.funcNamed Tryz.f5.name = some 5 by kernel_rfl).symm.trans hf) |>.symm
 obtain rfl : fn = Tryz.f5 := (Option.some.inj (Tryz.func5.symm.trans hfn)).symm
 refine ⟨by kernel_rfl, fun j t ht => ?_⟩
 rw [Tryz.params5] at ht
 have hm := Array.mem_of_getElem? ht
 simp only [List.mem_toArray, List.mem_cons, List.not_mem_nil, or_false] at hm
 rcases hm with rfl | rfl | rfl | rfl | rfl
 · exact (show Tryz.prog.wantsStandIn 24 = false by kernel_rfl)
 · exact (show Tryz.prog.wantsStandIn 9 = false by kernel_rfl)
 · exact (show Tryz.prog.wantsStandIn 3 = false by kernel_rfl)
 · exact (show Tryz.prog.wantsStandIn 3 = false by kernel_rfl)
 · exact (show Tryz.prog.wantsStandIn 47 = false by kernel_rfl)
theorem card : Rows.FsFilesCardSaid :=
 Claim7.holds_tied_plain_at .later [] _ _ _ _ said (fun _ h => by cases h) (by kernel_rfl) (fun _ h => by cases h) fsFiles_row_tie rfl ⟨rfl, rfl⟩ (by kernel_rfl) rfl plain (by kernel_rfl)
end Go.Proofs.YtkcnephbaffmbaaGreatDoor.fsFiles
namespace Go.Proofs.YtkcnephbaffmbaaGreatDoor
theorem fsFiles_holds : Rows.FsFilesCardSaid := fsFiles.card
#print axioms fsFiles_holds
end Go.Proofs.YtkcnephbaffmbaaGreatDoor
