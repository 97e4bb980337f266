/-
  FsNames, proved: for every state of the document and every two paths (as great as the form reads them): the call returns true, and changes nothing that was in memory; the one listed variable (the handle of the type of errors) starts as the program's text lays it, which the card ties.
-/
import Derived.Test.YtkcnephbaffmbaaGreatDoorH49
import Derived.Test.YtkcnephbaffmbaaGreatDoorCards
import Derived.Test.YtkcnephbaffmbaaGreatDoorTie
import Derived.Deep.DeepHandedRow
import Derived.ChangeMaps5
set_option maxRecDepth 100000
set_option maxHeartbeats 32000000
namespace Go.Proofs.YtkcnephbaffmbaaGreatDoor.fsNames
open Go.ChangeShapes Go.WideShapes Go.ChangeAt Go.RowKit Go.ChangeMaps
open P (serr sval)
set_option linter.unusedVariables false
theorem walk (us : List Value) (s : St) (p q : ByteArray) (w : World) (hA : stR.lies 0 w us s) (hF : FitsS s.1) (hp : p.size ≤ maxLen) (hq : q.size ≤ maxLen) (hg : Glob w) :
   Calls Tryz.prog 4 #[.agg us.toArray, .string p, .string q] w fun e w' => e = .returned (.bool true) ∧ Below w.heap.size w w' := by
 obtain ⟨a, c, rfl, hs, hI, hm⟩ := st_viewR hA
 obtain ⟨l, nx⟩ := s
 simp only at hs hI hm hF ⊢
 obtain ⟨n, hn⟩ := exa (l.length)
 have HRD : Hid (∀ V, Below w.heap.size w V → (Calls Tryz.prog 26 #[.agg #[.slice a n c, .int .i64 nx], .string p, .string q] V (FlatR w.heap.size (Told (l, nx) [p, q] (renE (l, nx) (sval p) (sval q)) (renS (l, nx) (sval p) (sval q))) V)) ∧
     (Calls Tryz.prog 28 #[.agg #[.slice a n c, .int .i64 nx], .string p, .string q] V (FlatR w.heap.size (Told (l, nx) [p, q] (lnE (l, nx) (sval p) (sval q)) (lnkN (l, nx) (hold (l, nx) (sval q)) (lst (sval q)) (tgt (l, nx) (sval p)))) V))) := fun V hV => by
   rw [hn]
   exact ⟨rRename_any 0 w a c (l, nx) p q V hV hs hF, rLink_any 0 w a c (l, nx) p q V hV hs hF⟩
 rw [← hn] at hs hm ⊢
 unfold maxLen at hm
 have HG : Hid (∀ V, Below w.heap.size w V → Glob V) := fun V hV => hg.below hV hg.lt
 have H0 : Hid (ndsR.lies 0 w [.slice a n c] l ∧ n = l.length ∧ FitsS l ∧ p.size ≤ maxLen ∧ q.size ≤ maxLen) := ⟨hs, hn, hF, hp, hq⟩
 obtain ⟨V0, hV0⟩ := exa (w.alloc (.cells #[.slice a n c, .int .i64 nx] 24))
 have HB0 : Hid (Below w.heap.size w V0 ∧ Box V0 w.heap.size 24 #[.slice a n c, .int .i64 nx]) := ⟨by rw [hV0]; exact (Below.refl _ w).alloc (Nat.le_refl _) _, by rw [hV0]; exact Box.new _ _ _⟩
 clear hA hs hn hF hp hq hI hg
 have HC1 := of_f (nx := nx) H0.out.2.1 (ndsR.below H0.out.1 HB0.out.1) H0.out.2.2.1
 go_enter Tryz.func4, Tryz.ntmps4
 obtain ⟨b0c0, b0c1, -, -⟩ := HB0.out.2.two
 rw [hV0] at b0c0 b0c1
 go_wp2_with fail
 rw [← hV0]
 clear b0c0 b0c1 hV0
 refine HC1.mono ?_
 rintro e w1 ⟨⟨a1, c1, rfl, ho1⟩, hb1⟩
 obtain ⟨V1, hV1⟩ := exa (w1.alloc (.cells #[.slice a1 n c1, .int .i64 nx] 27))
 have hbV1 : Below w1.heap.size w1 V1 := by rw [hV1]; exact (Below.refl _ w1).alloc (Nat.le_refl _) _
 have HB1 : Hid (Below V0.heap.size V0 V1 ∧ Box V1 w1.heap.size 27 #[.slice a1 n c1, .int .i64 nx] ∧ ndsN.lies V0.heap.size V1 [.slice a1 n c1] l) := ⟨below_any hb1 hbV1, by rw [hV1]; exact Box.new _ _ _, ndsN.below (ndsN.olies ho1) hbV1⟩
 clear hb1 hbV1 ho1 HC1
 have HC2 := rename_f (nx := nx) H0.out.2.1 H0.out.2.2.2.1 H0.out.2.2.2.2 (ndsN.below HB1.out.2.2 (Below.refl _ V1)) (HG.out _ (below_any HB0.out.1 HB1.out.1))
 obtain ⟨b1c0, b1c1, -, -⟩ := HB1.out.2.1.two
 rw [hV1] at b1c0 b1c1
 go_wp2_with fail
 rw [← hV1]
 clear b1c0 b1c1 hV1
 refine HC2.mono ?_
 rintro e w2 ⟨⟨k2, l2, x2, n2, a2, c2, rfl, hn2, hl2, ht2⟩, hb2⟩
 obtain ⟨V2, hV2⟩ := exa (w2.alloc (.cells #[.slice a2 n2 c2, .int .i64 x2] 27))
 have hbV2 : Below w2.heap.size w2 V2 := by rw [hV2]; exact (Below.refl _ w2).alloc (Nat.le_refl _) _
 have HB2 : Hid (Below V1.heap.size V1 V2 ∧ Box V2 w2.heap.size 27 #[.slice a2 n2 c2, .int .i64 x2] ∧ ndsN.lies V1.heap.size V2 [.slice a2 n2 c2] l2 ∧ n2 = l2.length ∧ Told (l, nx) [p, q] (renE (l, nx) (sval p) (sval q)) (renS (l, nx) (sval p) (sval q)) k2 (l2, x2)) := ⟨below_any hb2 hbV2, by rw [hV2]; exact Box.new _ _ _, ndsN.below hl2 hbV2, hn2, ht2⟩
 clear hb2 hbV2 hl2 hn2 ht2 HC2
 have HC3 := (HRD.out V2 (below_any (below_any HB0.out.1 HB1.out.1) HB2.out.1)).1
 obtain ⟨b0c0, b0c1, -, -⟩ := ((HB0.out.2).below (below_any HB1.out.1 HB2.out.1) (HB0.out.2).lt).two
 rw [hV2] at b0c0 b0c1
 go_wp2_with fail
 rw [← hV2]
 clear b0c0 b0c1 hV2
 refine HC3.mono ?_
 rintro e w3 ⟨⟨k3, l3, x3, n3, a3, c3, rfl, hn3, hl3, ht3⟩, hb3⟩
 obtain ⟨rfl, heq3⟩ := HB2.out.2.2.2.2.one ht3
 obtain ⟨e1, e2⟩ := Prod.mk.inj heq3
 subst e1 e2
 have hl3 := hl3.lie
 obtain ⟨V3, hV3⟩ := exa (w3.alloc (.cells #[.slice a3 n3 c3, .int .i64 x2] 24))
 have hbV3 : Below w3.heap.size w3 V3 := by rw [hV3]; exact (Below.refl _ w3).alloc (Nat.le_refl _) _
 have HB3 : Hid (Below V2.heap.size V2 V3 ∧ Box V3 w3.heap.size 24 #[.slice a3 n3 c3, .int .i64 x2] ∧ ndsR.lies 0 V3 [.slice a3 n3 c3] l2 ∧ n3 = l2.length) := ⟨below_any hb3 hbV3, by rw [hV3]; exact Box.new _ _ _, ndsR.below hl3 hbV3, hn3⟩
 clear hb3 hbV3 hl3 hn3 ht3 HC3 heq3
 have HC4 := link_f (nx := nx) H0.out.2.1 H0.out.2.2.2.1 H0.out.2.2.2.2 (ndsN.below HB1.out.2.2 (below_any HB2.out.1 HB3.out.1)) (HG.out _ (below_any (below_any (below_any HB0.out.1 HB1.out.1) HB2.out.1) HB3.out.1))
 obtain ⟨b1c0, b1c1, -, -⟩ := ((HB1.out.2.1).below (below_any HB2.out.1 HB3.out.1) (HB1.out.2.1).lt).two
 rw [hV3] at b1c0 b1c1
 go_wp2_with fail
 rw [← hV3]
 clear b1c0 b1c1 hV3
 refine HC4.mono ?_
 rintro e w4 ⟨⟨k4, l4, x4, n4, a4, c4, rfl, hn4, hl4, ht4⟩, hb4⟩
 obtain ⟨V4, hV4⟩ := exa (w4.alloc (.cells #[.slice a4 n4 c4, .int .i64 x4] 27))
 have hbV4 : Below w4.heap.size w4 V4 := by rw [hV4]; exact (Below.refl _ w4).alloc (Nat.le_refl _) _
 have HB4 : Hid (Below V3.heap.size V3 V4 ∧ Box V4 w4.heap.size 27 #[.slice a4 n4 c4, .int .i64 x4] ∧ ndsN.lies V3.heap.size V4 [.slice a4 n4 c4] l4 ∧ n4 = l4.length ∧ Told (l, nx) [p, q] (lnE (l, nx) (sval p) (sval q)) (lnkN (l, nx) (hold (l, nx) (sval q)) (lst (sval q)) (tgt (l, nx) (sval p))) k4 (l4, x4)) := ⟨below_any hb4 hbV4, by rw [hV4]; exact Box.new _ _ _, ndsN.below hl4 hbV4, hn4, ht4⟩
 clear hb4 hbV4 hl4 hn4 ht4 HC4
 have HC5 := (HRD.out V4 (below_any (below_any (below_any (below_any HB0.out.1 HB1.out.1) HB2.out.1) HB3.out.1) HB4.out.1)).2
 obtain ⟨b0c0, b0c1, -, -⟩ := ((HB0.out.2).below (below_any (below_any (below_any HB1.out.1 HB2.out.1) HB3.out.1) HB4.out.1) (HB0.out.2).lt).two
 rw [hV4] at b0c0 b0c1
 go_wp2_with fail
 rw [← hV4]
 clear b0c0 b0c1 hV4
 refine HC5.mono ?_
 rintro e w5 ⟨⟨k5, l5, x5, n5, a5, c5, rfl, hn5, hl5, ht5⟩, hb5⟩
 obtain ⟨rfl, heq5⟩ := HB4.out.2.2.2.2.one ht5
 obtain ⟨e1, e2⟩ := Prod.mk.inj heq5
 subst e1 e2
 have hl5 := hl5.lie
 obtain ⟨V5, hV5⟩ := exa (w5.alloc (.cells #[.slice a5 n5 c5, .int .i64 x4] 24))
 have hbV5 : Below w5.heap.size w5 V5 := by rw [hV5]; exact (Below.refl _ w5).alloc (Nat.le_refl _) _
 have HB5 : Hid (Below V4.heap.size V4 V5 ∧ Box V5 w5.heap.size 24 #[.slice a5 n5 c5, .int .i64 x4] ∧ ndsR.lies 0 V5 [.slice a5 n5 c5] l4 ∧ n5 = l4.length) := ⟨below_any hb5 hbV5, by rw [hV5]; exact Box.new _ _ _, ndsR.below hl5 hbV5, hn5⟩
 clear hb5 hbV5 hl5 hn5 ht5 HC5 heq5
 have HC6 := alike_f (nx := x2) HB2.out.2.2.2.1 HB3.out.2.2.2 (ndsN.below HB2.out.2.2.1 (below_any (below_any HB3.out.1 HB4.out.1) HB5.out.1)) (ndsR.below HB3.out.2.2.1 (below_any HB4.out.1 HB5.out.1))
 obtain ⟨b2c0, b2c1, -, -⟩ := ((HB2.out.2.1).below (below_any (below_any HB3.out.1 HB4.out.1) HB5.out.1) (HB2.out.2.1).lt).two
 rw [hV5] at b2c0 b2c1
 obtain ⟨b3c0, b3c1, -, -⟩ := ((HB3.out.2.1).below (below_any HB4.out.1 HB5.out.1) (HB3.out.2.1).lt).two
 rw [hV5] at b3c0 b3c1
 go_wp2_with (go_at_call 20; refine (num10_any _ _).mono ?_; rintro e v ⟨rfl, rfl⟩)
 rw [← hV5]
 clear b2c0 b2c1 b3c0 b3c1 hV5
 refine HC6.mono ?_
 rintro e w6 ⟨rfl, hb6⟩
 have HL6 : Hid (Below V5.heap.size V5 w6) := hb6
 clear hb6 HC6
 have HC7 := alike_f (nx := x4) HB4.out.2.2.2.1 HB5.out.2.2.2 (ndsN.below HB4.out.2.2.1 (below_any HB5.out.1 HL6.out)) (ndsR.below HB5.out.2.2.1 HL6.out)
 obtain ⟨b4c0, b4c1, -, -⟩ := ((HB4.out.2.1).below (below_any HB5.out.1 HL6.out) (HB4.out.2.1).lt).two
 obtain ⟨b5c0, b5c1, -, -⟩ := ((HB5.out.2.1).below HL6.out (HB5.out.2.1).lt).two
 go_wp2_with (go_at_call 20; refine (num10_any _ _).mono ?_; rintro e v ⟨rfl, rfl⟩)
 clear b4c0 b4c1 b5c0 b5c1
 refine HC7.mono ?_
 rintro e w7 ⟨rfl, hb7⟩
 have HL7 : Hid (Below w6.heap.size w6 w7) := hb7
 clear hb7 HC7
 have HC8 := alike_f (nx := nx) H0.out.2.1 H0.out.2.1 (ndsN.below HB1.out.2.2 (below_any (below_any (below_any (below_any (below_any HB2.out.1 HB3.out.1) HB4.out.1) HB5.out.1) HL6.out) HL7.out)) (ndsR.below H0.out.1 (below_any (below_any (below_any (below_any (below_any (below_any (below_any HB0.out.1 HB1.out.1) HB2.out.1) HB3.out.1) HB4.out.1) HB5.out.1) HL6.out) HL7.out))
 obtain ⟨b1c0, b1c1, -, -⟩ := ((HB1.out.2.1).below (below_any (below_any (below_any (below_any (below_any HB2.out.1 HB3.out.1) HB4.out.1) HB5.out.1) HL6.out) HL7.out) (HB1.out.2.1).lt).two
 obtain ⟨b0c0, b0c1, -, -⟩ := ((HB0.out.2).below (below_any (below_any (below_any (below_any (below_any (below_any HB1.out.1 HB2.out.1) HB3.out.1) HB4.out.1) HB5.out.1) HL6.out) HL7.out) (HB0.out.2).lt).two
 go_wp2_with (go_at_call 20; refine (num10_any _ _).mono ?_; rintro e v ⟨rfl, rfl⟩)
 clear b1c0 b1c1 b0c0 b0c1
 refine HC8.mono ?_
 rintro e w8 ⟨rfl, hb8⟩
 have HL8 : Hid (Below w7.heap.size w7 w8) := hb8
 clear hb8 HC8
 have HC9 := alive_any w8 (HG.out _ (below_any (below_any (below_any (below_any (below_any (below_any (below_any (below_any HB0.out.1 HB1.out.1) HB2.out.1) HB3.out.1) HB4.out.1) HB5.out.1) HL6.out) HL7.out) HL8.out))
 go_wp2_with fail
 refine HC9.mono ?_
 rintro e w9 ⟨rfl, hb9⟩
 have HL9 : Hid (Below w8.heap.size w8 w9) := hb9
 clear hb9 HC9
 have HZ : Hid (Below w.heap.size w w9) := (below_any (below_any (below_any (below_any (below_any (below_any (below_any (below_any (below_any HB0.out.1 HB1.out.1) HB2.out.1) HB3.out.1) HB4.out.1) HB5.out.1) HL6.out) HL7.out) HL8.out) HL9.out)
 go_wp2
 go_ret
 exact ⟨by simp, HZ.out⟩
 
theorem contract (H : Type) (enc : TypeId × Value → H) (W : World) (base : Nat) (args : Array Value) (ds gs : List (DataW H)) (before : List MemPlace)
   (hval0 : ∀ (j : Nat) t v, Tryz.f4.params[j]? = some t → args[j]? = some v → Value.okWide Tryz.prog W .any base t v)
   (hW : DataW.Whole enc Tryz.prog Tryz.f4.params.toList Rows.fsNamesSpec.vars false W args.toList ds gs before) 
   (hsz0 : (DataW.weightsEach Tryz.prog (Tryz.f4.params.toList ++ Rows.fsNamesSpec.plain.varTypes Tryz.prog) (ds ++ gs)).all (· ≤ reachBytes) = true) (hg : Glob W) :
   Calls Tryz.prog 4 args W fun e W' => ∃ v, e = .returned v ∧ Rows.fsNamesSpec.post enc Tryz.prog Tryz.f4 false true false false W args v W' := by
 have hval := hval0
 have hW' := hW
 obtain ⟨p, q, hA0, hV, rfl, hfz, hnd⟩ := hW
 have hA : DataW.TrodAll enc Tryz.prog W 0 (fun _ => true) true Tryz.f4.params.toList args.toList ds p := hA0
 have hsz := hsz0
 clear hsz0
 rw [Tryz.params4] at hA hval hsz
 obtain ⟨v0, vs0, d0, ds0, p0, q0, hargs, rfl, rfl, h0, r0⟩ := trodAll_cons hA
 obtain ⟨v1, vs1, d1, ds1, p1, q1, rfl, rfl, rfl, h1, r1⟩ := trodAll_cons r0
 obtain ⟨v2, vs2, d2, ds2, p2, q2, rfl, rfl, rfl, h2, r2⟩ := trodAll_cons r1
 obtain ⟨rfl, rfl, rfl⟩ := trodAll_nil r2
 obtain rfl : args = #[v0, v1, v2] := by cases args; simp_all
 obtain ⟨rfl, rfl⟩ := trodVars_none hV
 obtain ⟨cs0, rfl, hc0⟩ := okWide_struct Tryz.underlying24 (hval 0 24 v0 rfl rfl)
 obtain ⟨us0, rfl⟩ := as_list cs0
 have k0 := h0
 have lt0 : ∀ x ∈ p0, x.block < W.heap.size := by obtain ⟨m, hm⟩ := k0; exact DataW.trod_lt m _ _ _ hm
 obtain ⟨m0, hm0⟩ := h0
 obtain ⟨s0, A0, F0'⟩ := stR.reads hm0
 have F0 := F0' fun n hn => by have := List.all_eq_true.1 hsz _ (DataW.weights_mem_each (j := 0) rfl rfl n hn); simpa using this
 obtain ⟨t1, rfl, rfl, rfl, z1⟩ := open_string Tryz.underlying9 (hval 1 9 v1 rfl rfl) h1
 obtain ⟨t2, rfl, rfl, rfl, z2⟩ := open_string Tryz.underlying9 (hval 2 9 v2 rfl rfl) h2
 clear hA0 hval0
 refine (walk us0 s0 t1 t2 W A0 (fitsS_of F0) z1 z2 hg).mono fun e W' ⟨he, bel⟩ => ?_
 subst he
 exact ⟨_, rfl, _, _, _, [], _, [], hW', trodAll_mk1 (shut_bool Tryz.underlying4 _), (trodAll_cons_mk (Below.trod laidOut (by kernel_rfl) (of_decide_eq_true (by kernel_rfl)) k0 bel lt0) (trodAll_cons_mk (shut_string Tryz.underlying9 z1) (trodAll_cons_mk (shut_string Tryz.underlying9 z2) trodAll_mk0))), rfl, bel.frame _, fun h => by cases h⟩
theorem reads (os : Os) {H : Type} (enc : TypeId × Value → H) : ∃ places, DataW.whole enc Tryz.prog ((laidOf (World.holding Tryz.prog os ⟨#[], #[], []⟩)).forCall (fun _ _ => 0) ⟨#[], #[.agg #[.slice none 0 0, .int .i64 0], .string ⟨#[]⟩, .string ⟨#[]⟩], []⟩).memory Tryz.f4.params.toList Rows.fsNamesSpec.vars false (#[.agg #[.slice none 0 0, .int .i64 0], .string ⟨#[]⟩, .string ⟨#[]⟩] : Array Value).toList 8 = some ([.agg [.nil, .lit (.int .i64 0)], .lit (.string []), .lit (.string [])], [], places) :=
 ⟨[], by kernel_rfl⟩
theorem lifted (os : Os) (started : os.Started) (H : Type) (enc : TypeId × Value → H) (F : Stop.Interp) :
   ReturnsInHanded {} Tryz.checked os 4 .any ((OpenSpec.ofChange Rows.fsNamesSpec).preRow enc Tryz.prog Tryz.f4 Rows.fsNamesRow.domain false Rows.fsNamesRow.laid) (((OpenSpec.ofChange Rows.fsNamesSpec).at F).post enc Tryz.prog Tryz.f4 false true false false) := by
 obtain ⟨places, hx⟩ := reads os enc
 refine returnsInHanded_of_row (C := Tryz.checked) (s := (OpenSpec.ofChange Rows.fsNamesSpec)) own started (by kernel_rfl) Tryz.func4
   (witness_row_at (enc := enc) (C := Tryz.checked) false (laidOf (World.holding Tryz.prog os ⟨#[], #[], []⟩)) #[.agg #[.slice none 0 0, .int .i64 0], .string ⟨#[]⟩, .string ⟨#[]⟩] rfl (by kernel_rfl) (by kernel_rfl) (by kernel_rfl)
     (OpenSpec.preRow_of_cond 8 hx (by kernel_rfl) (fun k hk => by cases hk) (by kernel_rfl) (laidWorld_met os _))) ?_
 intro W base args ds gs before hval hW _ _ hsz hL _ _
 exact contract H enc W base args ds gs before hval hW hsz (handle_of_laid hL)
theorem said : Rows.FsNamesSaid :=
 OpenClaim.holds_of_cond 4 Tryz.f4 rfl rfl rfl rfl rfl rfl rfl ⟨rfl, rfl, rfl, rfl, rfl⟩ rfl rfl rfl rfl rfl (by kernel_rfl) Tryz.func4 (by kernel_rfl)
   (of_decide_eq_true (by kernel_rfl)) (by unfold Func.isWrapper; first | (rw [if_pos (by decide +kernel)]; kernel_rfl) | (rw [if_neg (by decide +kernel)]; exact ⟨rfl, rfl⟩))
   (fun os started H enc _ F => by rw [OpenClaim.pre_eq_preRow]; exact lifted os started H enc F)
theorem plain (f : FuncId) (fn : Func) (hf : Tryz.pinned.checked.prog.funcNamed Tryz.f4.name = some f) (hfn : Tryz.pinned.checked.prog.funcs[f]? = some fn) :
   true = Tryz.pinned.checked.prog.looks [] ∧ ∀ (j : Nat) t, fn.params[j]? = some t → Tryz.pinned.checked.prog.wantsStandIn t = false := by
 obtain rfl : f = 4 := Option.some.inj ((show Tryz.prog.funcNamed Tryz.f4.name = some 4 by kernel_rfl).symm.trans hf) |>.symm
 obtain rfl : fn = Tryz.f4 := (Option.some.inj (Tryz.func4.symm.trans hfn)).symm
 refine ⟨by kernel_rfl, fun j t ht => ?_⟩
 rw [Tryz.params4] at ht
 have hm := Array.mem_of_getElem? ht
 simp only [List.mem_toArray, List.mem_cons, List.not_mem_nil, or_false] at hm
 rcases hm with rfl | rfl | rfl
 · exact (show Tryz.prog.wantsStandIn 24 = false by kernel_rfl)
 · exact (show Tryz.prog.wantsStandIn 9 = false by kernel_rfl)
 · exact (show Tryz.prog.wantsStandIn 9 = false by kernel_rfl)
theorem card : Rows.FsNamesCardSaid :=
 Claim7.holds_tied_plain_at .later [] _ _ _ _ said (fun _ h => by cases h) (by kernel_rfl) (fun _ h => by cases h) fsNames_row_tie rfl ⟨rfl, rfl⟩ (by kernel_rfl) rfl plain (by kernel_rfl)
end Go.Proofs.YtkcnephbaffmbaaGreatDoor.fsNames
namespace Go.Proofs.YtkcnephbaffmbaaGreatDoor
theorem fsNames_holds : Rows.FsNamesCardSaid := fsNames.card
#print axioms fsNames_holds
end Go.Proofs.YtkcnephbaffmbaaGreatDoor
