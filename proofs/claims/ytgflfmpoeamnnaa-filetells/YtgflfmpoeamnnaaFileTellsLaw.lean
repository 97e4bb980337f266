/-
  FileTells: for every file, every two numbers and every octets the law answers true: what is read, and what writes and cuts make of the file, are the page's; what is handed in stays. No condition.
-/
import Derived.Test.YtgflfmpoeamnnaaLawMath
namespace Go.Proofs.Ytgflfmpoeamnnaa.fileTells
open Go.ChangeShapes Go.WideShapes Go.ChangeAt Go.RowKit

set_option maxRecDepth 100000 in
set_option maxHeartbeats 8000000 in
theorem walk (us : List Value) (f : Fl) (off n : Int) (v : Value) (d : List Int) (w : World) (h : flR.lies 0 w us f) (hf : Fits f) (hoff : I64 off) (hn : I64 n) (hv : Arg 0 w v d) (hd : d.length ≤ 140737488351232) : Calls Try.prog 3 #[.agg us.toArray, .int .i64 off, .int .i64 n, v] w fun e w' => e = .returned (.bool true) ∧ Below w.heap.size w w' := by
  obtain ⟨fa, fc, rfl, _, _, _⟩ := fl_viewR h
  obtain ⟨fs, hfs⟩ : ∃ s, s = f.1 := ⟨_, rfl⟩
  obtain ⟨fl, hfl⟩ : ∃ n, n = f.2.length := ⟨_, rfl⟩
  rw [← hfs, ← hfl] at h ⊢
  obtain ⟨da, dc, rfl, _⟩ := hv.shape
  obtain ⟨dl, hdl⟩ : ∃ n, n = d.length := ⟨_, rfl⟩
  rw [← hdl] at hv ⊢
  obtain ⟨U0, hU0⟩ : ∃ U, U = w.alloc (.cells #[.int .i64 fs, .slice fa fl fc] 24) := ⟨_, rfl⟩
  have hb0 : Below w.heap.size w U0 := by rw [hU0]; exact (Below.refl _ w).alloc (Nat.le_refl _) _
  have HL0 : Hid (Below w.heap.size w U0) := hb0
  have KF : Hid (∀ V, Below U0.heap.size U0 V → Box V w.heap.size 24 #[.int .i64 fs, .slice fa fl fc] ∧ flR.lies 0 V [.int .i64 fs, .slice fa fl fc] f ∧ Arg 0 V (.slice da dl dc) d) := fun V hV => by
    have hB : Box U0 w.heap.size 24 #[.int .i64 fs, .slice fa fl fc] := by rw [hU0]; exact Box.new _ _ _
    have hbb := below_any hb0 hV
    exact ⟨hB.below hV hB.lt, flR.below h hbb, hv.below hbb⟩
  have HI : Hid (I64 off ∧ I64 n ∧ Fits f ∧ d.length ≤ 140737488351232) := ⟨hoff, hn, hf, hd⟩
  have g0 : U0.cell? ⟨w.heap.size, 0, none⟩ = some (.int .i64 fs) := (KF.out U0 (Below.refl _ _)).1.two.1
  have g1 : U0.cell? ⟨w.heap.size, 1, none⟩ = some (.slice fa fl fc) := (KF.out U0 (Below.refl _ _)).1.two.2.1
  rw [hU0] at g0 g1
  have HN := num_any
  clear h hf hoff hn hv hd hb0 hfs hfl hdl
  go_enter Try.func3, Try.ntmps3
  go_wp2_with fail
  rw [← hU0]
  clear hU0 g0 g1
  refine (made_of 0 _ f U0 (KF.out U0 (Below.refl _ _)).2.1 HI.out.2.2.1).mono ?_
  rintro e w1 ⟨⟨us1, rfl, hu1⟩, hb1⟩
  have HL1 : Hid (Below U0.heap.size U0 w1) := hb1
  have hx1 := flN.weaken (flN.olies hu1) (Nat.zero_le _)
  obtain ⟨xs, xa, xl, xc, rfl, hx1, hx⟩ := var_new hx1
  have KX0 : Hid (∀ V, Below w1.heap.size w1 V → flN.lies 0 V [.int .i64 xs, .slice xa xl xc] f) := fun V hV => flN.below hx1 hV
  clear hx1 hu1 hb1 hx
  go_wp2_with fail
  refine (copy_any 0 _ d w1 (KF.out w1 HL1.out).2.2 (by have := HI.out.2.2.2; omega)).mono ?_
  rintro e w2 ⟨⟨v2, rfl, hv2⟩, hb2⟩
  have HL2 : Hid (Below w1.heap.size w1 w2) := hb2
  obtain ⟨oa, oc', rfl⟩ := hv2.shape
  obtain ⟨ol, hol⟩ : ∃ n, n = d.length := ⟨_, rfl⟩
  rw [← hol] at hv2 ⊢
  obtain ⟨U2, hU2⟩ : ∃ U, U = w2.alloc (.cells #[.int .i64 xs, .slice xa xl xc] 28) := ⟨_, rfl⟩
  have hbU : Below w2.heap.size w2 U2 := by rw [hU2]; exact (Below.refl _ _).alloc (Nat.le_refl _) _
  have HL3 : Hid (Below w2.heap.size w2 U2) := hbU
  have KX : Hid (∀ V, Below U2.heap.size U2 V → Box V w2.heap.size 28 #[.int .i64 xs, .slice xa xl xc] ∧ flN.lies 0 V [.int .i64 xs, .slice xa xl xc] f ∧ Arg 0 V (.slice oa ol oc') d) := fun V hV => by
    have hB : Box U2 w2.heap.size 28 #[.int .i64 xs, .slice xa xl xc] := by rw [hU2]; exact Box.new _ _ _
    have hbb := below_any hbU hV
    exact ⟨hB.below hV hB.lt, KX0.out V (below_any HL2.out hbb), (hv2.arg.weaken (Nat.zero_le _)).below hbb⟩
  have HF2 : Hid (Below U0.heap.size U0 U2) := below_any (below_any HL1.out HL2.out) hbU
  have g0 : U2.cell? ⟨w2.heap.size, 0, none⟩ = some (.int .i64 xs) := (KX.out U2 (Below.refl _ _)).1.two.1
  have g1 : U2.cell? ⟨w2.heap.size, 1, none⟩ = some (.slice xa xl xc) := (KX.out U2 (Below.refl _ _)).1.two.2.1
  rw [hU2] at g0 g1
  clear hv2 hb2 hbU hol KX0
  have HC0 : Hid (Below U2.heap.size U2 U2) := Below.refl _ _
  go_wp2_with fail
  rw [← hU2]
  clear hU2
  clear g0 g1
  refine (read_any 0 _ f off n U2 (KX.out U2 HC0.out).2.1 HI.out.1 HI.out.2.1).mono ?_
  rintro e y1 ⟨⟨r1, rfl, hr1⟩, hb1⟩
  obtain ⟨Z1, hZ1⟩ : ∃ Z, Z = rdO f off n := ⟨_, rfl⟩
  obtain ⟨E1, hE1⟩ : ∃ E, E = rdE f off n := ⟨_, rfl⟩
  have HZ1 : Hid (Z1 = rdO f off n ∧ E1 = rdE f off n) := ⟨hZ1, hE1⟩
  rw [← hZ1] at hr1
  rw [← hE1]
  clear hZ1 hE1
  obtain ⟨ra1, rc1, rfl, _⟩ := hr1.shape
  obtain ⟨rl1, hrl1⟩ : ∃ n, n = Z1.length := ⟨_, rfl⟩
  rw [← hrl1] at hr1 ⊢
  have KR1 : Hid (∀ V, Below y1.heap.size y1 V → Arg 0 V (.slice ra1 rl1 rc1) Z1) := fun V hV => (hr1.weaken (Nat.zero_le _)).below hV
  have HC1 : Hid (Below U2.heap.size U2 y1) := below_any HC0.out hb1
  have LN1 : Hid (Below U2.heap.size U2 y1) := hb1
  clear hr1 hrl1 hb1
  have g0 : y1.cell? ⟨w.heap.size, 0, none⟩ = some (.int .i64 fs) := (KF.out y1 (below_any HF2.out HC1.out)).1.two.1
  have g1 : y1.cell? ⟨w.heap.size, 1, none⟩ = some (.slice fa fl fc) := (KF.out y1 (below_any HF2.out HC1.out)).1.two.2.1
  go_wp2_with fail
  clear g0 g1
  refine (rread_any 0 _ f off n y1 (KF.out y1 (below_any HF2.out HC1.out)).2.1 HI.out.1 HI.out.2.1).mono ?_
  rintro e y2 ⟨⟨r2, rfl, hr2⟩, hb2⟩
  rw [← HZ1.out.1] at hr2
  rw [← HZ1.out.2]
  obtain ⟨ra2, rc2, rfl, _⟩ := hr2.shape
  obtain ⟨rl2, hrl2⟩ : ∃ n, n = Z1.length := ⟨_, rfl⟩
  rw [← hrl2] at hr2 ⊢
  have KR2 : Hid (∀ V, Below y2.heap.size y2 V → Arg 0 V (.slice ra2 rl2 rc2) Z1) := fun V hV => (hr2.weaken (Nat.zero_le _)).below hV
  have HC2 : Hid (Below U2.heap.size U2 y2) := below_any HC1.out hb2
  have LN2 : Hid (Below y1.heap.size y1 y2) := hb2
  clear hr2 hrl2 hb2
  have g0 : y2.cell? ⟨w2.heap.size, 0, none⟩ = some (.int .i64 xs) := (KX.out y2 HC2.out).1.two.1
  have g1 : y2.cell? ⟨w2.heap.size, 1, none⟩ = some (.slice xa xl xc) := (KX.out y2 HC2.out).1.two.2.1
  go_wp2_with fail
  clear g0 g1
  refine (write_any 0 0 _ f off _ d y2 (KX.out y2 HC2.out).2.1 HI.out.1 (KX.out y2 HC2.out).2.2).mono ?_
  rintro e y3 ⟨⟨r3, rfl, hr3⟩, hb3⟩
  obtain ⟨Z3, hZ3⟩ : ∃ Z, Z = wrF f off d := ⟨_, rfl⟩
  obtain ⟨E3, hE3⟩ : ∃ E, E = wrE f off d := ⟨_, rfl⟩
  have HZ3 : Hid (Z3 = wrF f off d ∧ E3 = wrE f off d) := ⟨hZ3, hE3⟩
  rw [← hZ3] at hr3
  rw [← hE3]
  clear hZ3 hE3
  obtain ⟨rs3, ra3, rl3, rc3, rfl, hq3, hx⟩ := var_new (flN.weaken hr3 (Nat.zero_le _))
  obtain ⟨V3, hV3⟩ : ∃ U, U = y3.alloc (.cells #[.int .i64 rs3, .slice ra3 rl3 rc3] 28) := ⟨_, rfl⟩
  have hbV : Below y3.heap.size y3 V3 := by rw [hV3]; exact (Below.refl _ _).alloc (Nat.le_refl _) _
  have KR3 : Hid (∀ V, Below V3.heap.size V3 V → Box V y3.heap.size 28 #[.int .i64 rs3, .slice ra3 rl3 rc3] ∧ flN.lies 0 V [.int .i64 rs3, .slice ra3 rl3 rc3] Z3) := fun V hV => by
    have hB : Box V3 y3.heap.size 28 #[.int .i64 rs3, .slice ra3 rl3 rc3] := by rw [hV3]; exact Box.new _ _ _
    exact ⟨hB.below hV hB.lt, flN.below hq3 (below_any hbV hV)⟩
  have HC3 : Hid (Below U2.heap.size U2 V3) := below_any (below_any HC2.out hb3) hbV
  have LN3 : Hid (Below y2.heap.size y2 V3) := below_any hb3 hbV
  clear hr3 hq3 hb3 hbV hx
  have g0 : V3.cell? ⟨w.heap.size, 0, none⟩ = some (.int .i64 fs) := (KF.out V3 (below_any HF2.out HC3.out)).1.two.1
  have g1 : V3.cell? ⟨w.heap.size, 1, none⟩ = some (.slice fa fl fc) := (KF.out V3 (below_any HF2.out HC3.out)).1.two.2.1
  rw [hV3] at g0 g1
  go_wp2_with fail
  rw [← hV3]
  clear hV3
  clear g0 g1
  refine (rwrite_any 0 0 _ f off _ d V3 (KF.out V3 (below_any HF2.out HC3.out)).2.1 HI.out.1 (KF.out V3 (below_any HF2.out HC3.out)).2.2).mono ?_
  rintro e y4 ⟨⟨r4, rfl, hr4⟩, hb4⟩
  rw [← HZ3.out.1] at hr4
  rw [← HZ3.out.2]
  obtain ⟨rs4, ra4, rl4, rc4, rfl, hq4, hx⟩ := var_newR (flR.weaken hr4 (Nat.zero_le _))
  obtain ⟨V4, hV4⟩ : ∃ U, U = y4.alloc (.cells #[.int .i64 rs4, .slice ra4 rl4 rc4] 24) := ⟨_, rfl⟩
  have hbV : Below y4.heap.size y4 V4 := by rw [hV4]; exact (Below.refl _ _).alloc (Nat.le_refl _) _
  have KR4 : Hid (∀ V, Below V4.heap.size V4 V → Box V y4.heap.size 24 #[.int .i64 rs4, .slice ra4 rl4 rc4] ∧ flR.lies 0 V [.int .i64 rs4, .slice ra4 rl4 rc4] Z3) := fun V hV => by
    have hB : Box V4 y4.heap.size 24 #[.int .i64 rs4, .slice ra4 rl4 rc4] := by rw [hV4]; exact Box.new _ _ _
    exact ⟨hB.below hV hB.lt, flR.below hq4 (below_any hbV hV)⟩
  have HC4 : Hid (Below U2.heap.size U2 V4) := below_any (below_any HC3.out hb4) hbV
  have LN4 : Hid (Below V3.heap.size V3 V4) := below_any hb4 hbV
  clear hr4 hq4 hb4 hbV hx
  have g0 : V4.cell? ⟨w2.heap.size, 0, none⟩ = some (.int .i64 xs) := (KX.out V4 HC4.out).1.two.1
  have g1 : V4.cell? ⟨w2.heap.size, 1, none⟩ = some (.slice xa xl xc) := (KX.out V4 HC4.out).1.two.2.1
  rw [hV4] at g0 g1
  go_wp2_with fail
  rw [← hV4]
  clear hV4
  clear g0 g1
  refine (trunc_any 0 _ f n V4 (KX.out V4 HC4.out).2.1 HI.out.2.1).mono ?_
  rintro e y5 ⟨⟨r5, rfl, hr5⟩, hb5⟩
  obtain ⟨Z5, hZ5⟩ : ∃ Z, Z = trF f n := ⟨_, rfl⟩
  obtain ⟨E5, hE5⟩ : ∃ E, E = trE f n := ⟨_, rfl⟩
  have HZ5 : Hid (Z5 = trF f n ∧ E5 = trE f n) := ⟨hZ5, hE5⟩
  rw [← hZ5] at hr5
  rw [← hE5]
  clear hZ5 hE5
  obtain ⟨rs5, ra5, rl5, rc5, rfl, hq5, hx⟩ := var_new (flN.weaken hr5 (Nat.zero_le _))
  obtain ⟨V5, hV5⟩ : ∃ U, U = y5.alloc (.cells #[.int .i64 rs5, .slice ra5 rl5 rc5] 28) := ⟨_, rfl⟩
  have hbV : Below y5.heap.size y5 V5 := by rw [hV5]; exact (Below.refl _ _).alloc (Nat.le_refl _) _
  have KR5 : Hid (∀ V, Below V5.heap.size V5 V → Box V y5.heap.size 28 #[.int .i64 rs5, .slice ra5 rl5 rc5] ∧ flN.lies 0 V [.int .i64 rs5, .slice ra5 rl5 rc5] Z5) := fun V hV => by
    have hB : Box V5 y5.heap.size 28 #[.int .i64 rs5, .slice ra5 rl5 rc5] := by rw [hV5]; exact Box.new _ _ _
    exact ⟨hB.below hV hB.lt, flN.below hq5 (below_any hbV hV)⟩
  have HC5 : Hid (Below U2.heap.size U2 V5) := below_any (below_any HC4.out hb5) hbV
  have LN5 : Hid (Below V4.heap.size V4 V5) := below_any hb5 hbV
  clear hr5 hq5 hb5 hbV hx
  have g0 : V5.cell? ⟨w.heap.size, 0, none⟩ = some (.int .i64 fs) := (KF.out V5 (below_any HF2.out HC5.out)).1.two.1
  have g1 : V5.cell? ⟨w.heap.size, 1, none⟩ = some (.slice fa fl fc) := (KF.out V5 (below_any HF2.out HC5.out)).1.two.2.1
  rw [hV5] at g0 g1
  go_wp2_with fail
  rw [← hV5]
  clear hV5
  clear g0 g1
  refine (rtrunc_any 0 _ f n V5 (KF.out V5 (below_any HF2.out HC5.out)).2.1 HI.out.2.1).mono ?_
  rintro e y6 ⟨⟨r6, rfl, hr6⟩, hb6⟩
  rw [← HZ5.out.1] at hr6
  rw [← HZ5.out.2]
  obtain ⟨rs6, ra6, rl6, rc6, rfl, hq6, hx⟩ := var_newR (flR.weaken hr6 (Nat.zero_le _))
  obtain ⟨V6, hV6⟩ : ∃ U, U = y6.alloc (.cells #[.int .i64 rs6, .slice ra6 rl6 rc6] 24) := ⟨_, rfl⟩
  have hbV : Below y6.heap.size y6 V6 := by rw [hV6]; exact (Below.refl _ _).alloc (Nat.le_refl _) _
  have KR6 : Hid (∀ V, Below V6.heap.size V6 V → Box V y6.heap.size 24 #[.int .i64 rs6, .slice ra6 rl6 rc6] ∧ flR.lies 0 V [.int .i64 rs6, .slice ra6 rl6 rc6] Z5) := fun V hV => by
    have hB : Box V6 y6.heap.size 24 #[.int .i64 rs6, .slice ra6 rl6 rc6] := by rw [hV6]; exact Box.new _ _ _
    exact ⟨hB.below hV hB.lt, flR.below hq6 (below_any hbV hV)⟩
  have HC6 : Hid (Below U2.heap.size U2 V6) := below_any (below_any HC5.out hb6) hbV
  have LN6 : Hid (Below V5.heap.size V5 V6) := below_any hb6 hbV
  clear hr6 hq6 hb6 hbV hx
  go_wp2_with fail
  rw [← hV6]
  clear hV6
  refine (of_any 0 _ d V6 (KX.out V6 HC6.out).2.2).mono ?_
  rintro e y7 ⟨⟨r7, rfl, hr7⟩, hb7⟩
  obtain ⟨Z7, hZ7⟩ : ∃ Z, Z = ofF d := ⟨_, rfl⟩
  obtain ⟨E7, hE7⟩ : ∃ E, E = ofE d := ⟨_, rfl⟩
  have HZ7 : Hid (Z7 = ofF d ∧ E7 = ofE d) := ⟨hZ7, hE7⟩
  rw [← hZ7] at hr7
  rw [← hE7]
  clear hZ7 hE7
  obtain ⟨rs7, ra7, rl7, rc7, rfl, hq7, hx⟩ := var_new (flN.weaken hr7 (Nat.zero_le _))
  obtain ⟨V7, hV7⟩ : ∃ U, U = y7.alloc (.cells #[.int .i64 rs7, .slice ra7 rl7 rc7] 28) := ⟨_, rfl⟩
  have hbV : Below y7.heap.size y7 V7 := by rw [hV7]; exact (Below.refl _ _).alloc (Nat.le_refl _) _
  have KR7 : Hid (∀ V, Below V7.heap.size V7 V → Box V y7.heap.size 28 #[.int .i64 rs7, .slice ra7 rl7 rc7] ∧ flN.lies 0 V [.int .i64 rs7, .slice ra7 rl7 rc7] Z7) := fun V hV => by
    have hB : Box V7 y7.heap.size 28 #[.int .i64 rs7, .slice ra7 rl7 rc7] := by rw [hV7]; exact Box.new _ _ _
    exact ⟨hB.below hV hB.lt, flN.below hq7 (below_any hbV hV)⟩
  have HC7 : Hid (Below U2.heap.size U2 V7) := below_any (below_any HC6.out hb7) hbV
  have LN7 : Hid (Below V6.heap.size V6 V7) := below_any hb7 hbV
  clear hr7 hq7 hb7 hbV hx
  go_wp2_with fail
  rw [← hV7]
  clear hV7
  refine (rof_any 0 _ d V7 (KF.out V7 (below_any HF2.out HC7.out)).2.2).mono ?_
  rintro e y8 ⟨⟨r8, rfl, hr8⟩, hb8⟩
  rw [← HZ7.out.1] at hr8
  rw [← HZ7.out.2]
  obtain ⟨rs8, ra8, rl8, rc8, rfl, hq8, hx⟩ := var_newR (flR.weaken hr8 (Nat.zero_le _))
  obtain ⟨V8, hV8⟩ : ∃ U, U = y8.alloc (.cells #[.int .i64 rs8, .slice ra8 rl8 rc8] 24) := ⟨_, rfl⟩
  have hbV : Below y8.heap.size y8 V8 := by rw [hV8]; exact (Below.refl _ _).alloc (Nat.le_refl _) _
  have KR8 : Hid (∀ V, Below V8.heap.size V8 V → Box V y8.heap.size 24 #[.int .i64 rs8, .slice ra8 rl8 rc8] ∧ flR.lies 0 V [.int .i64 rs8, .slice ra8 rl8 rc8] Z7) := fun V hV => by
    have hB : Box V8 y8.heap.size 24 #[.int .i64 rs8, .slice ra8 rl8 rc8] := by rw [hV8]; exact Box.new _ _ _
    exact ⟨hB.below hV hB.lt, flR.below hq8 (below_any hbV hV)⟩
  have HC8 : Hid (Below U2.heap.size U2 V8) := below_any (below_any HC7.out hb8) hbV
  have LN8 : Hid (Below V7.heap.size V7 V8) := below_any hb8 hbV
  clear hr8 hq8 hb8 hbV hx
  have HS := same_any 0 0 _ _ Z1 Z1 V8 (KR1.out V8 (below_any (below_any (below_any (below_any (below_any (below_any LN2.out LN3.out) LN4.out) LN5.out) LN6.out) LN7.out) LN8.out)) (KR2.out V8 (below_any (below_any (below_any (below_any (below_any LN3.out LN4.out) LN5.out) LN6.out) LN7.out) LN8.out))
  rw [decide_eq_true rfl] at HS
  go_wp2_with fail
  rw [← hV8]
  clear hV8
  refine HS.mono ?_
  rintro e y9 ⟨rfl, qq, hq9⟩
  have HQ9 : Hid (Below V8.heap.size V8 y9) := by rw [hq9]; exact below_drewN (Below.refl _ _) qq
  clear HS hq9
  have k3 := KR3.out y9 (below_any (below_any (below_any (below_any (below_any LN4.out LN5.out) LN6.out) LN7.out) LN8.out) HQ9.out)
  have k4 := KR4.out y9 (below_any (below_any (below_any (below_any LN5.out LN6.out) LN7.out) LN8.out) HQ9.out)
  obtain ⟨g0, g1, _, _⟩ := k3.1.two
  obtain ⟨g2, g3, _, _⟩ := k4.1.two
  have HK := alike_any 0 0 _ _ Z3 Z3 y9 k3.2 k4.2
  rw [if_pos rfl] at HK
  clear k3 k4
  go_wp2_with (go_at_call 19; refine (HN _ _).mono ?_; rintro e t0 ⟨rfl, rfl⟩)
  refine HK.mono ?_
  rintro e y10 ⟨rfl, hbn⟩
  have HQ10 : Hid (Below V8.heap.size V8 y10) := below_any HQ9.out hbn
  clear HK hbn g0 g1 g2 g3
  have k5 := KR5.out y10 (below_any (below_any (below_any LN6.out LN7.out) LN8.out) HQ10.out)
  have k6 := KR6.out y10 (below_any (below_any LN7.out LN8.out) HQ10.out)
  obtain ⟨g0, g1, _, _⟩ := k5.1.two
  obtain ⟨g2, g3, _, _⟩ := k6.1.two
  have HK := alike_any 0 0 _ _ Z5 Z5 y10 k5.2 k6.2
  rw [if_pos rfl] at HK
  clear k5 k6
  go_wp2_with (go_at_call 19; refine (HN _ _).mono ?_; rintro e t0 ⟨rfl, rfl⟩)
  refine HK.mono ?_
  rintro e y11 ⟨rfl, hbn⟩
  have HQ11 : Hid (Below V8.heap.size V8 y11) := below_any HQ10.out hbn
  clear HK hbn g0 g1 g2 g3
  have k7 := KR7.out y11 (below_any LN8.out HQ11.out)
  have k8 := KR8.out y11 (below_any (Below.refl _ _) HQ11.out)
  obtain ⟨g0, g1, _, _⟩ := k7.1.two
  obtain ⟨g2, g3, _, _⟩ := k8.1.two
  have HK := alike_any 0 0 _ _ Z7 Z7 y11 k7.2 k8.2
  rw [if_pos rfl] at HK
  clear k7 k8
  go_wp2_with (go_at_call 19; refine (HN _ _).mono ?_; rintro e t0 ⟨rfl, rfl⟩)
  refine HK.mono ?_
  rintro e y12 ⟨rfl, hbn⟩
  have HQ12 : Hid (Below V8.heap.size V8 y12) := below_any HQ11.out hbn
  clear HK hbn g0 g1 g2 g3
  have HX : Hid (Below U2.heap.size U2 y12 ∧ Below w.heap.size w U2) := ⟨below_any HC8.out HQ12.out, below_any HL0.out HF2.out⟩
  obtain ⟨ce, hce⟩ : ∃ x, x = cerr f := ⟨_, rfl⟩
  have HCE : Hid (ce = cerr f) := hce
  obtain ⟨g0, g1, _, _⟩ := (KX.out y12 HX.out.1).1.two
  obtain ⟨g2, g3, _, _⟩ := (KF.out y12 (below_any HF2.out HX.out.1)).1.two
  clear hce
  go_wp2_with (go_at_call 19; refine (HN _ _).mono ?_; rintro e t0 ⟨rfl, rfl⟩)
  have HS4 : Hid (∀ V, Below U2.heap.size U2 V → V.cell? ⟨w2.heap.size, 0, none⟩ = some (.int .i64 xs) ∧ V.cell? ⟨w2.heap.size, 1, none⟩ = some (.slice xa xl xc) ∧ V.cell? ⟨w.heap.size, 0, none⟩ = some (.int .i64 fs) ∧ V.cell? ⟨w.heap.size, 1, none⟩ = some (.slice fa fl fc)) := fun V hV => ⟨(KX.out V hV).1.two.1, (KX.out V hV).1.two.2.1, (KF.out V (below_any HF2.out hV)).1.two.1, (KF.out V (below_any HF2.out hV)).1.two.2.1⟩
  have HY0 : Hid (Below U2.heap.size U2 y12.drew) := HX.out.1.drew
  go_region_held3 (fun V => V.cell? ⟨w2.heap.size, 0, none⟩ = some (.int .i64 xs) ∧ V.cell? ⟨w2.heap.size, 1, none⟩ = some (.slice xa xl xc) ∧ V.cell? ⟨w.heap.size, 0, none⟩ = some (.int .i64 fs) ∧ V.cell? ⟨w.heap.size, 1, none⟩ = some (.slice fa fl fc)) (first | exact ⟨g0, g1, g2, g3⟩ | assumption)
    ((first
      | (go_at_call 21; go_simp; refine Calls.mono (check_any 0 _ f _ (KX.out _ HY0.out).2.1) ?_; rintro e z1 ⟨rfl, hz1⟩; rw [← HCE.out]; have HY1 : Hid (Below U2.heap.size U2 z1) := below_any HY0.out hz1; have sx1 := HS4.out z1 HY1.out; clear hz1)
      | (go_at_call 19; go_simp; refine Calls.mono (HN _ _) ?_; rintro e z2 ⟨rfl, rfl⟩)
      | (go_at_call 22; go_simp; refine Calls.mono (rcheck_any 0 _ f _ (KF.out _ (below_any HF2.out HY1.out)).2.1) ?_; rintro e z3 ⟨rfl, hz3⟩; rw [← HCE.out]; have HY3 : Hid (Below U2.heap.size U2 z3) := below_any HY1.out hz3; have sx3 := HS4.out z3 HY3.out; clear hz3)
      | (go_at_call 20; go_simp; refine Calls.mono (alike_any 0 0 _ _ f f _ (KX.out _ HY3.out).2.1 (KF.out _ (below_any HF2.out HY3.out)).2.1) ?_; rintro e z4 ⟨rfl, hz4⟩; rw [if_pos rfl]; have HY4 : Hid (Below U2.heap.size U2 z4) := below_any HY3.out hz4; have sx4 := HS4.out z4 HY4.out; clear hz4)
      | (go_at_call 18; go_simp; refine Calls.mono (same_any 0 0 _ _ d d _ (KX.out _ HY4.out).2.2 (KF.out _ (below_any HF2.out HY4.out)).2.2) ?_; rintro e z5 ⟨rfl, q5, rfl⟩; rw [decide_eq_true rfl]; have HY5 : Hid (Below U2.heap.size U2 (z4.drewN q5)) := below_drewN HY4.out q5; have sx5 := HS4.out (z4.drewN q5) HY5.out)
      | (go_at_call 23; go_simp; refine Calls.mono (alive_any _) ?_; rintro e z6 ⟨rfl, hz6⟩; have HY6 : Hid (Below U2.heap.size U2 z6) := below_any HY5.out hz6; have sx6 := HS4.out z6 HY6.out; clear hz6)))
  go_wp2
  go_ret
  exact ⟨rfl, below_any HX.out.2 HY6.out⟩

set_option maxRecDepth 100000 in
theorem lifted (os : Os) (started : os.Started) (H : Type) (enc : TypeId × Value → H) :
    ReturnsInHanded {} Try.checked os 3 .any (Rows.fileTellsSpec.pre6 enc Try.prog Try.f3 Rows.fileTellsRow.domain false) (Rows.fileTellsSpec.post enc Try.prog Try.f3 false true false false) := by
  refine returnsInHanded_of_change_sized (C := Try.checked) own started (by kernel_rfl) Try.func3
    (ChangeSpec.witness6 (enc := enc) (C := Try.checked) false ⟨#[], #[.agg #[.int .i64 0, .slice none 0 0], .int .i64 0, .int .i64 0, .slice none 0 0], []⟩ 8 (by kernel_rfl) (by kernel_rfl) (by kernel_rfl) (by kernel_rfl)) ?_
  intro W base args ds gs before hval0 hW hcnd hsz0 _
  have hval : ∀ (j : Nat) t v, Try.f3.params[j]? = some t → args[j]? = some v → Value.okWide Try.prog W .any base t v := hval0
  have hW' := hW
  obtain ⟨p, q, hA0, hV, rfl, hfz, hnd⟩ := hW
  have hA : DataW.TrodAll enc Try.prog W 0 (fun _ => true) true Try.f3.params.toList args.toList ds p := hA0
  have hsz : (DataW.weightsEach Try.prog (Try.f3.params.toList ++ Rows.fileTellsSpec.plain.varTypes Try.prog) (ds ++ gs)).all (· ≤ reachBytes) = true := hsz0
  clear hsz0
  rw [Try.params3] at hA hval hsz
  obtain ⟨v0, vs0, d0, ds0, p0, q0, hargs, rfl, rfl, h0, r0⟩ := trodAll_cons hA
  obtain ⟨v1, vs1, d1, ds1, p1, q1, rfl, rfl, rfl, h1, r1⟩ := trodAll_cons r0
  obtain ⟨v2, vs2, d2, ds2, p2, q2, rfl, rfl, rfl, h2, r2⟩ := trodAll_cons r1
  obtain ⟨v3, vs3, d3, ds3, p3, q3, rfl, rfl, rfl, h3, r3⟩ := trodAll_cons r2
  obtain ⟨rfl, rfl, rfl⟩ := trodAll_nil r3
  obtain rfl : args = #[v0, v1, v2, v3] := by cases args; simp_all
  obtain ⟨rfl, rfl⟩ := trodVars_none hV
  obtain ⟨cs0, rfl, hc0⟩ := okWide_struct Try.underlying24 (hval 0 24 v0 rfl rfl)
  obtain ⟨us0, rfl⟩ := as_list cs0
  have k0 := h0
  have lt0 : ∀ x ∈ p0, x.block < W.heap.size := by obtain ⟨m, hm⟩ := k0; exact DataW.trod_lt m _ _ _ hm
  obtain ⟨m0, hm0⟩ := h0
  obtain ⟨s0, A0, F0'⟩ := flR.reads hm0
  have F0 := F0' fun n hn => by have := List.all_eq_true.1 hsz _ (DataW.weights_mem_each (j := 0) rfl rfl n hn); simpa using this
  obtain ⟨a1, rfl, rfl, rfl, w1⟩ := open_int Try.underlying3 (hval 1 3 v1 rfl rfl) h1
  have b1 := bounds_i64 w1
  obtain ⟨a2, rfl, rfl, rfl, w2⟩ := open_int Try.underlying3 (hval 2 3 v2 rfl rfl) h2
  have b2 := bounds_i64 w2
  obtain ⟨x3, len3, cap3, rfl⟩ := okWide_slice Try.underlying25 (hval 3 25 v3 rfl rfl)
  have k3 := h3
  have lt3 : ∀ x ∈ p3, x.block < W.heap.size := by obtain ⟨m, hm⟩ := k3; exact DataW.trod_lt m _ _ _ hm
  obtain ⟨m3, hm3⟩ := h3
  obtain ⟨s3, A3, F3'⟩ := bytesS.reads hm3
  have F3 := F3' fun n hn => by have := List.all_eq_true.1 hsz _ (DataW.weights_mem_each (j := 3) rfl rfl n hn); simpa using this
  clear hA0 hval0
  refine (walk us0 s0 a1 a2 _ s3 W A0 (fits_of F0) b1 b2 A3 (bytes_fit F3)).mono fun e W' ⟨he, bel⟩ => ?_
  subst he
  exact ⟨_, rfl, _, _, _, [], _, [], hW', trodAll_mk1 (shut_bool Try.underlying4 _), (trodAll_cons_mk (Below.trod laidOut (by kernel_rfl) (of_decide_eq_true (by kernel_rfl)) k0 bel lt0) (trodAll_cons_mk (shut_int Try.underlying3 w1) (trodAll_cons_mk (shut_int Try.underlying3 w2) (trodAll_cons_mk (Below.trod laidOut (by kernel_rfl) (of_decide_eq_true (by kernel_rfl)) k3 bel lt3) trodAll_mk0)))), rfl, bel.frame _, fun h => by cases h⟩

theorem over : Rows.fileTellsRow.holds Try.pinned (OpenSpec.ofChange Rows.fileTellsSpec) :=
  OpenClaim.holds_of_wide 3 Try.f3 rfl rfl rfl rfl rfl rfl rfl ⟨rfl, rfl, rfl, rfl, rfl⟩ rfl rfl rfl rfl rfl (by kernel_rfl) Try.func3 (by kernel_rfl)
    (of_decide_eq_true (by kernel_rfl)) (by unfold Func.isWrapper; first | (rw [if_pos (by decide +kernel)]; kernel_rfl) | (rw [if_neg (by decide +kernel)]; exact ⟨rfl, rfl⟩))
    (fun os started H enc _ => lifted os started H enc)

end Go.Proofs.Ytgflfmpoeamnnaa.fileTells

namespace Go.Proofs.Ytgflfmpoeamnnaa
theorem fileTells_holds : Rows.FileTellsSaid := fileTells.over
#print axioms fileTells_holds
end Go.Proofs.Ytgflfmpoeamnnaa
