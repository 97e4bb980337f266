/-
  FsUndone, proved: for every state of the document and every path (as great as the form reads them): the call returns true, and changes nothing that was in memory; the one listed variable (the handle of the type of errors) starts as the program's text lays it, which the card ties.
-/
import Derived.Test.YtkcnephbaffmbaaGreatDoorP47
import Derived.Test.YtkcnephbaffmbaaGreatDoorP48
import Derived.Test.YtkcnephbaffmbaaGreatDoorP49
import Derived.Test.YtkcnephbaffmbaaGreatDoorCards
import Derived.Test.YtkcnephbaffmbaaGreatDoorTie
import Derived.Deep.DeepHandedRow
import Derived.ChangeMaps5
namespace Go.Proofs.YtkcnephbaffmbaaGreatDoor.fsUndone
open Go.ChangeShapes Go.WideShapes Go.ChangeAt Go.RowKit Go.ChangeMaps
open P (serr sval)
set_option linter.unusedVariables false
set_option maxRecDepth 100000 in
set_option maxHeartbeats 16000000 in
theorem walk (us : List Value) (s : St) (p : ByteArray) (w : World) (hA : stR.lies 0 w us s) (hF : FitsS s.1) (hp : p.size ≤ maxLen) (hg : Glob w) :
    Calls Tryz.prog 7 #[.agg us.toArray, .string p] w fun e w' => e = .returned (.bool true) ∧ Below w.heap.size w w' := by
  obtain ⟨a, c, rfl, hs, hI, hm⟩ := st_viewR hA
  obtain ⟨l, nx⟩ := s
  simp only at hs hI hm hF ⊢
  obtain ⟨n, hn⟩ : ∃ n, n = l.length := ⟨_, rfl⟩
  rw [← hn] at hs hm ⊢
  have HG : Hid (∀ V, Below w.heap.size w V → Glob V) := fun V hV => hg.below hV hg.lt
  have H0 : Hid (ndsR.lies 0 w [.slice a n c] l ∧ n = l.length ∧ FitsS l ∧ p.size ≤ maxLen) := ⟨hs, hn, hF, hp⟩
  obtain ⟨V0, hV0⟩ : ∃ V, V = w.alloc (.cells #[.slice a n c, .int .i64 nx] 24) := ⟨_, rfl⟩
  have HB0 : Hid (Below w.heap.size w V0 ∧ Box V0 w.heap.size 24 #[.slice a n c, .int .i64 nx]) := ⟨by rw [hV0]; exact (Below.refl _ w).alloc (Nat.le_refl _) _, by rw [hV0]; exact Box.new _ _ _⟩
  clear hA hs hn hF hp hI hg hm
  have HC1 := alive_any V0 (HG.out _ HB0.out.1)
  go_enter Tryz.func7, Tryz.ntmps7
  go_wp2_with fail
  rw [← hV0]
  clear hV0
  refine HC1.mono ?_
  rintro e w1 ⟨rfl, hb1⟩
  have HL1 : Hid (Below V0.heap.size V0 w1) := hb1
  clear hb1 HC1
  have HC2 := of_f (nx := nx) H0.out.2.1 (ndsR.below H0.out.1 (below_any HB0.out.1 HL1.out)) H0.out.2.2.1
  obtain ⟨b0c0, b0c1, -, -⟩ := ((HB0.out.2).below HL1.out (HB0.out.2).lt).two
  go_wp2_with fail
  clear b0c0 b0c1
  refine HC2.mono ?_
  rintro e w2 ⟨⟨a2, c2, rfl, ho2⟩, hb2⟩
  have HL2 : Hid (Below w1.heap.size w1 w2 ∧ ndsN.lies w1.heap.size w2 [.slice a2 n c2] l) := ⟨hb2, ndsN.olies ho2⟩
  clear hb2 ho2 HC2
  have HC3 := create_f (nx := nx) H0.out.2.1 H0.out.2.2.2 HL2.out.2 (HG.out _ (below_any (below_any HB0.out.1 HL1.out) HL2.out.1))
  go_wp2_with fail
  refine HC3.mono ?_
  rintro e w3 ⟨⟨k3, l3, x3, n3, a3, c3, rfl, hn3, hl3, ht3⟩, hb3⟩
  obtain ⟨V3, hV3⟩ : ∃ V, V = w3.alloc (.cells #[.slice a3 n3 c3, .int .i64 x3] 27) := ⟨_, rfl⟩
  have hbV3 : Below w3.heap.size w3 V3 := by rw [hV3]; exact (Below.refl _ w3).alloc (Nat.le_refl _) _
  have HB3 : Hid (Below w2.heap.size w2 V3 ∧ Box V3 w3.heap.size 27 #[.slice a3 n3 c3, .int .i64 x3] ∧ ndsN.lies w2.heap.size V3 [.slice a3 n3 c3] l3 ∧ n3 = l3.length ∧ Told (l, nx) [p] (mkE (l, nx) (sval p)) (mkN (l, nx) (hold (l, nx) (sval p)) (lst (sval p)) false) k3 (l3, x3)) := ⟨below_any hb3 hbV3, by rw [hV3]; exact Box.new _ _ _, ndsN.below hl3 hbV3, hn3, ht3⟩
  clear hb3 hbV3 hl3 hn3 ht3 HC3
  have HC4 := of_f (nx := nx) H0.out.2.1 (ndsR.below H0.out.1 (below_any (below_any (below_any HB0.out.1 HL1.out) HL2.out.1) HB3.out.1)) H0.out.2.2.1
  obtain ⟨b0c0, b0c1, -, -⟩ := ((HB0.out.2).below (below_any (below_any HL1.out HL2.out.1) HB3.out.1) (HB0.out.2).lt).two
  rw [hV3] at b0c0 b0c1
  go_wp2_with fail
  rw [← hV3]
  clear b0c0 b0c1 hV3
  refine HC4.mono ?_
  rintro e w4 ⟨⟨a4, c4, rfl, ho4⟩, hb4⟩
  have HL4 : Hid (Below V3.heap.size V3 w4 ∧ ndsN.lies V3.heap.size w4 [.slice a4 n c4] l) := ⟨hb4, ndsN.olies ho4⟩
  clear hb4 ho4 HC4
  have HC5 := mkdir_f (nx := nx) H0.out.2.1 H0.out.2.2.2 HL4.out.2 (HG.out _ (below_any (below_any (below_any (below_any HB0.out.1 HL1.out) HL2.out.1) HB3.out.1) HL4.out.1))
  go_wp2_with fail
  refine HC5.mono ?_
  rintro e w5 ⟨⟨k5, l5, x5, n5, a5, c5, rfl, hn5, hl5, ht5⟩, hb5⟩
  obtain ⟨V5, hV5⟩ : ∃ V, V = w5.alloc (.cells #[.slice a5 n5 c5, .int .i64 x5] 27) := ⟨_, rfl⟩
  have hbV5 : Below w5.heap.size w5 V5 := by rw [hV5]; exact (Below.refl _ w5).alloc (Nat.le_refl _) _
  have HB5 : Hid (Below w4.heap.size w4 V5 ∧ Box V5 w5.heap.size 27 #[.slice a5 n5 c5, .int .i64 x5] ∧ ndsN.lies w4.heap.size V5 [.slice a5 n5 c5] l5 ∧ n5 = l5.length ∧ Told (l, nx) [p] (mkE (l, nx) (sval p)) (mkN (l, nx) (hold (l, nx) (sval p)) (lst (sval p)) true) k5 (l5, x5)) := ⟨below_any hb5 hbV5, by rw [hV5]; exact Box.new _ _ _, ndsN.below hl5 hbV5, hn5, ht5⟩
  clear hb5 hbV5 hl5 hn5 ht5 HC5
  obtain rfl : k3 = k5 := HB3.out.2.2.2.2.same HB5.out.2.2.2.2
  have hr3 := run_len Tryz.underlying25 a3 n3 c3
  have hr5 := run_len Tryz.underlying25 a5 n5 c5
  by_cases hk3 : k3 = 0
  case neg =>
    obtain rfl : n3 = 0 := by rw [HB3.out.2.2.2.1]; have := HB3.out.2.2.2.2.bad hk3; rw [(Prod.mk.inj this).1]; rfl
    obtain rfl : n5 = 0 := by rw [HB5.out.2.2.2.1]; have := HB5.out.2.2.2.2.bad hk3; rw [(Prod.mk.inj this).1]; rfl
    obtain ⟨b3c0, b3c1, -, -⟩ := ((HB3.out.2.1).below (below_any HL4.out.1 HB5.out.1) (HB3.out.2.1).lt).two
    rw [hV5] at b3c0 b3c1
    obtain ⟨b5c0, b5c1, -, -⟩ := HB5.out.2.1.two
    rw [hV5] at b5c0 b5c1
    have HBF : Hid (Below w.heap.size w V5) := (below_any (below_any (below_any (below_any (below_any HB0.out.1 HL1.out) HL2.out.1) HB3.out.1) HL4.out.1) HB5.out.1)
    rw [hV5] at HBF
    go_wp2_with (go_at_call 20; refine (num10_any _ _).mono ?_; rintro e v ⟨rfl, rfl⟩)
    go_ret
    exact ⟨rfl, HBF.out⟩
  subst hk3
  obtain ⟨u1, u2, u3, u4⟩ := undone_law HB3.out.2.2.2.2 HB5.out.2.2.2.2
  have HU : Hid (Ok (l, nx) ∧ (∀ k S, Told (l3, x3) [p] (filE l3 (sval p)) (dropN (l3, x3) (hold (l3, x3) (sval p)) (lst (sval p)) (tgt (l3, x3) (sval p))) k S → k = 0 ∧ S = (l, nx + 1)) ∧ (∀ k S, Told (l5, x5) [p] (rmE (l5, x5) (sval p)) (dropN (l5, x5) (hold (l5, x5) (sval p)) (lst (sval p)) (tgt (l5, x5) (sval p))) k S → k = 0 ∧ S = (l, nx + 1))) := ⟨u1, u3, u4⟩
  have hnx2 : 2 ≤ nx := u1.wk.nx.1
  simp only at u2
  clear u1 u3 u4
  have HC6 := unlink_f (nx := x3) HB3.out.2.2.2.1 H0.out.2.2.2 (ndsN.below HB3.out.2.2.1 (below_any HL4.out.1 HB5.out.1)) (HG.out _ (below_any (below_any (below_any (below_any (below_any HB0.out.1 HL1.out) HL2.out.1) HB3.out.1) HL4.out.1) HB5.out.1))
  obtain ⟨b3c0, b3c1, -, -⟩ := ((HB3.out.2.1).below (below_any HL4.out.1 HB5.out.1) (HB3.out.2.1).lt).two
  rw [hV5] at b3c0 b3c1
  go_wp2_with (go_at_call 20; refine (num10_any _ _).mono ?_; rintro e v ⟨rfl, rfl⟩)
  rw [← hV5]
  clear b3c0 b3c1 hV5
  refine HC6.mono ?_
  rintro e w6 ⟨⟨k6, l6, x6, n6, a6, c6, rfl, hn6, hl6, ht6⟩, hb6⟩
  obtain ⟨rfl, he6⟩ := HU.out.2.1 _ _ ht6
  obtain ⟨e61, e62⟩ := Prod.mk.inj he6
  subst e61 e62
  clear he6
  obtain ⟨V6, hV6⟩ : ∃ V, V = w6.alloc (.cells #[.slice a6 n6 c6, .int .i64 (nx + 1)] 27) := ⟨_, rfl⟩
  have hbV6 : Below w6.heap.size w6 V6 := by rw [hV6]; exact (Below.refl _ w6).alloc (Nat.le_refl _) _
  have HB6 : Hid (Below V5.heap.size V5 V6 ∧ Box V6 w6.heap.size 27 #[.slice a6 n6 c6, .int .i64 (nx + 1)] ∧ ndsN.lies V5.heap.size V6 [.slice a6 n6 c6] l6 ∧ n6 = l6.length) := ⟨below_any hb6 hbV6, by rw [hV6]; exact Box.new _ _ _, ndsN.below hl6 hbV6, hn6⟩
  clear hb6 hbV6 hl6 hn6 ht6 HC6
  have HC7 := rmdir_f (nx := x5) HB5.out.2.2.2.1 H0.out.2.2.2 (ndsN.below HB5.out.2.2.1 HB6.out.1) (HG.out _ (below_any (below_any (below_any (below_any (below_any (below_any HB0.out.1 HL1.out) HL2.out.1) HB3.out.1) HL4.out.1) HB5.out.1) HB6.out.1))
  obtain ⟨b5c0, b5c1, -, -⟩ := ((HB5.out.2.1).below HB6.out.1 (HB5.out.2.1).lt).two
  rw [hV6] at b5c0 b5c1
  go_wp2_with fail
  rw [← hV6]
  clear b5c0 b5c1 hV6
  refine HC7.mono ?_
  rintro e w7 ⟨⟨k7, l7, x7, n7, a7, c7, rfl, hn7, hl7, ht7⟩, hb7⟩
  obtain ⟨rfl, he7⟩ := HU.out.2.2 _ _ ht7
  obtain ⟨e71, e72⟩ := Prod.mk.inj he7
  subst e71 e72
  clear he7
  obtain ⟨V7, hV7⟩ : ∃ V, V = w7.alloc (.cells #[.slice a7 n7 c7, .int .i64 (nx + 1)] 27) := ⟨_, rfl⟩
  have hbV7 : Below w7.heap.size w7 V7 := by rw [hV7]; exact (Below.refl _ w7).alloc (Nat.le_refl _) _
  have HB7 : Hid (Below V6.heap.size V6 V7 ∧ Box V7 w7.heap.size 27 #[.slice a7 n7 c7, .int .i64 (nx + 1)] ∧ ndsN.lies V6.heap.size V7 [.slice a7 n7 c7] l7 ∧ n7 = l7.length) := ⟨below_any hb7 hbV7, by rw [hV7]; exact Box.new _ _ _, ndsN.below hl7 hbV7, hn7⟩
  clear hb7 hbV7 hl7 hn7 ht7 HC7
  have HC8 := rown_any 0 w a c (l7, nx) HU.out.1.wk V7 (below_any (below_any (below_any (below_any (below_any (below_any (below_any HB0.out.1 HL1.out) HL2.out.1) HB3.out.1) HL4.out.1) HB5.out.1) HB6.out.1) HB7.out.1) (by rw [← H0.out.2.1]; exact H0.out.1)
  simp only at HC8
  rw [← H0.out.2.1] at HC8
  obtain ⟨b0c0, b0c1, -, -⟩ := ((HB0.out.2).below (below_any (below_any (below_any (below_any (below_any (below_any HL1.out HL2.out.1) HB3.out.1) HL4.out.1) HB5.out.1) HB6.out.1) HB7.out.1) (HB0.out.2).lt).two
  rw [hV7] at b0c0 b0c1
  go_wp2_with fail
  rw [← hV7]
  clear b0c0 b0c1 hV7
  refine HC8.mono ?_
  rintro e w8 ⟨⟨v8, rfl, ho8⟩, hb8⟩
  obtain ⟨a8, c8, rfl⟩ := ho8.shape
  rw [← H0.out.2.1] at ho8 ⊢
  obtain ⟨V8, hV8⟩ : ∃ V, V = w8.alloc (.cells #[.slice a8 n c8, .int .i64 (nx + 1)] 24) := ⟨_, rfl⟩
  have hbV8 : Below w8.heap.size w8 V8 := by rw [hV8]; exact (Below.refl _ w8).alloc (Nat.le_refl _) _
  have HB8 : Hid (Below V7.heap.size V7 V8 ∧ Box V8 w8.heap.size 24 #[.slice a8 n c8, .int .i64 (nx + 1)] ∧ ndsR.lies 0 V8 [.slice a8 n c8] l7) := ⟨below_any hb8 hbV8, by rw [hV8]; exact Box.new _ _ _, ndsR.below ho8.lie hbV8⟩
  have hbx8 : Box (w8.alloc (.cells #[.slice a8 n c8, .int .i64 nx] 24)) w8.heap.size 24 #[.slice a8 n c8, .int .i64 nx] := Box.new _ _ _
  obtain ⟨y0, y1, y2, y3⟩ := hbx8.two
  clear hb8 hbV8 ho8 HC8 hbx8
  have HC9 := alike_f (nx := nx + 1) HB6.out.2.2.2 H0.out.2.1 (ndsN.below HB6.out.2.2.1 (below_any HB7.out.1 HB8.out.1)) HB8.out.2.2
  obtain ⟨b6c0, b6c1, -, -⟩ := ((HB6.out.2.1).below (below_any HB7.out.1 HB8.out.1) (HB6.out.2.1).lt).two
  rw [hV8] at b6c0 b6c1
  obtain ⟨b8c0, b8c1, -, -⟩ := HB8.out.2.1.two
  rw [hV8] at b8c0 b8c1
  go_wp2_with (go_at_call 20; refine (num10_any _ _).mono ?_; rintro e v ⟨rfl, rfl⟩)
  rw [← hV8]
  clear b6c0 b6c1 b8c0 b8c1 hV8
  refine HC9.mono ?_
  clear y0 y1 y2 y3
  rintro e w9 ⟨rfl, hb9⟩
  have HL9 : Hid (Below V8.heap.size V8 w9) := hb9
  clear hb9 HC9
  have HC10 := alike_f (nx := nx + 1) HB7.out.2.2.2 H0.out.2.1 (ndsN.below HB7.out.2.2.1 (below_any HB8.out.1 HL9.out)) (ndsR.below HB8.out.2.2 HL9.out)
  obtain ⟨b7c0, b7c1, -, -⟩ := ((HB7.out.2.1).below (below_any HB8.out.1 HL9.out) (HB7.out.2.1).lt).two
  obtain ⟨b8c0, b8c1, -, -⟩ := ((HB8.out.2.1).below HL9.out (HB8.out.2.1).lt).two
  go_wp2_with fail
  clear b7c0 b7c1 b8c0 b8c1
  refine HC10.mono ?_
  rintro e w10 ⟨rfl, hb10⟩
  have HZ : Hid (Below w.heap.size w w10) := below_any (below_any (below_any (below_any (below_any (below_any (below_any (below_any (below_any (below_any HB0.out.1 HL1.out) HL2.out.1) HB3.out.1) HL4.out.1) HB5.out.1) HB6.out.1) HB7.out.1) HB8.out.1) HL9.out) hb10
  clear hb10
  go_wp2
  go_ret
  exact ⟨rfl, HZ.out⟩
  
set_option maxRecDepth 100000 in
theorem contract (H : Type) (enc : TypeId × Value → H) (W : World) (base : Nat) (args : Array Value) (ds gs : List (DataW H)) (before : List MemPlace)
    (hval0 : ∀ (j : Nat) t v, Tryz.f7.params[j]? = some t → args[j]? = some v → Value.okWide Tryz.prog W .any base t v)
    (hW : DataW.Whole enc Tryz.prog Tryz.f7.params.toList Rows.fsUndoneSpec.vars false W args.toList ds gs before) 
    (hsz0 : (DataW.weightsEach Tryz.prog (Tryz.f7.params.toList ++ Rows.fsUndoneSpec.plain.varTypes Tryz.prog) (ds ++ gs)).all (· ≤ reachBytes) = true) (hg : Glob W) :
    Calls Tryz.prog 7 args W fun e W' => ∃ v, e = .returned v ∧ Rows.fsUndoneSpec.post enc Tryz.prog Tryz.f7 false true false false W args v W' := by
  have hval := hval0
  have hW' := hW
  obtain ⟨p, q, hA0, hV, rfl, hfz, hnd⟩ := hW
  have hA : DataW.TrodAll enc Tryz.prog W 0 (fun _ => true) true Tryz.f7.params.toList args.toList ds p := hA0
  have hsz := hsz0
  clear hsz0
  rw [Tryz.params7] at hA hval hsz
  obtain ⟨v0, vs0, d0, ds0, p0, q0, hargs, rfl, rfl, h0, r0⟩ := trodAll_cons hA
  obtain ⟨v1, vs1, d1, ds1, p1, q1, rfl, rfl, rfl, h1, r1⟩ := trodAll_cons r0
  obtain ⟨rfl, rfl, rfl⟩ := trodAll_nil r1
  obtain rfl : args = #[v0, v1] := by cases args; simp_all
  obtain ⟨rfl, rfl⟩ := trodVars_none hV
  obtain ⟨cs0, rfl, hc0⟩ := okWide_struct Tryz.underlying24 (hval 0 24 v0 rfl rfl)
  obtain ⟨us0, rfl⟩ := as_list cs0
  have k0 := h0
  have lt0 : ∀ x ∈ p0, x.block < W.heap.size := by obtain ⟨m, hm⟩ := k0; exact DataW.trod_lt m _ _ _ hm
  obtain ⟨m0, hm0⟩ := h0
  obtain ⟨s0, A0, F0'⟩ := stR.reads hm0
  have F0 := F0' fun n hn => by have := List.all_eq_true.1 hsz _ (DataW.weights_mem_each (j := 0) rfl rfl n hn); simpa using this
  obtain ⟨t1, rfl, rfl, rfl, z1⟩ := open_string Tryz.underlying9 (hval 1 9 v1 rfl rfl) h1
  clear hA0 hval0
  refine (walk us0 s0 t1 W A0 (fitsS_of F0) z1 hg).mono fun e W' ⟨he, bel⟩ => ?_
  subst he
  exact ⟨_, rfl, _, _, _, [], _, [], hW', trodAll_mk1 (shut_bool Tryz.underlying4 _), (trodAll_cons_mk (Below.trod laidOut (by kernel_rfl) (of_decide_eq_true (by kernel_rfl)) k0 bel lt0) (trodAll_cons_mk (shut_string Tryz.underlying9 z1) trodAll_mk0)), rfl, bel.frame _, fun h => by cases h⟩
theorem reads (os : Os) {H : Type} (enc : TypeId × Value → H) : ∃ places, DataW.whole enc Tryz.prog ((laidOf (World.holding Tryz.prog os ⟨#[], #[], []⟩)).forCall (fun _ _ => 0) ⟨#[], #[.agg #[.slice none 0 0, .int .i64 0], .string ⟨#[]⟩], []⟩).memory Tryz.f7.params.toList Rows.fsUndoneSpec.vars false (#[.agg #[.slice none 0 0, .int .i64 0], .string ⟨#[]⟩] : Array Value).toList 8 = some ([.agg [.nil, .lit (.int .i64 0)], .lit (.string [])], [], places) :=
  ⟨[], by kernel_rfl⟩
set_option maxRecDepth 100000 in
theorem lifted (os : Os) (started : os.Started) (H : Type) (enc : TypeId × Value → H) (F : Stop.Interp) :
    ReturnsInHanded {} Tryz.checked os 7 .any ((OpenSpec.ofChange Rows.fsUndoneSpec).preRow enc Tryz.prog Tryz.f7 Rows.fsUndoneRow.domain false Rows.fsUndoneRow.laid) (((OpenSpec.ofChange Rows.fsUndoneSpec).at F).post enc Tryz.prog Tryz.f7 false true false false) := by
  obtain ⟨places, hx⟩ := reads os enc
  refine returnsInHanded_of_row (C := Tryz.checked) (s := (OpenSpec.ofChange Rows.fsUndoneSpec)) own started (by kernel_rfl) Tryz.func7
    (witness_row_at (enc := enc) (C := Tryz.checked) false (laidOf (World.holding Tryz.prog os ⟨#[], #[], []⟩)) #[.agg #[.slice none 0 0, .int .i64 0], .string ⟨#[]⟩] rfl (by kernel_rfl) (by kernel_rfl) (by kernel_rfl)
      (OpenSpec.preRow_of_cond 8 hx (by kernel_rfl) (fun k hk => by cases hk) (by kernel_rfl) (laidWorld_met os _))) ?_
  intro W base args ds gs before hval hW _ _ hsz hL _ _
  exact contract H enc W base args ds gs before hval hW hsz (handle_of_laid hL)
theorem said : Rows.FsUndoneSaid :=
  OpenClaim.holds_of_cond 7 Tryz.f7 rfl rfl rfl rfl rfl rfl rfl ⟨rfl, rfl, rfl, rfl, rfl⟩ rfl rfl rfl rfl rfl (by kernel_rfl) Tryz.func7 (by kernel_rfl)
    (of_decide_eq_true (by kernel_rfl)) (by unfold Func.isWrapper; first | (rw [if_pos (by decide +kernel)]; kernel_rfl) | (rw [if_neg (by decide +kernel)]; exact ⟨rfl, rfl⟩))
    (fun os started H enc _ F => by rw [OpenClaim.pre_eq_preRow]; exact lifted os started H enc F)
theorem plain (f : FuncId) (fn : Func) (hf : Tryz.pinned.checked.prog.funcNamed Tryz.f7.name = some f) (hfn : Tryz.pinned.checked.prog.funcs[f]? = some fn) :
    true = Tryz.pinned.checked.prog.looks [] ∧ ∀ (j : Nat) t, fn.params[j]? = some t → Tryz.pinned.checked.prog.wantsStandIn t = false := by
  obtain rfl : f = 7 := Option.some.inj ((show Tryz.prog.funcNamed Tryz.f7.name = some 7 by kernel_rfl).symm.trans hf) |>.symm
  obtain rfl : fn = Tryz.f7 := (Option.some.inj (Tryz.func7.symm.trans hfn)).symm
  refine ⟨by kernel_rfl, fun j t ht => ?_⟩
  rw [Tryz.params7] at ht
  have hm := Array.mem_of_getElem? ht
  simp only [List.mem_toArray, List.mem_cons, List.not_mem_nil, or_false] at hm
  rcases hm with rfl | rfl
  · exact (show Tryz.prog.wantsStandIn 24 = false by kernel_rfl)
  · exact (show Tryz.prog.wantsStandIn 9 = false by kernel_rfl)
theorem card : Rows.FsUndoneCardSaid :=
  Claim7.holds_tied_plain_at .later [] _ _ _ _ said (fun _ h => by cases h) (by kernel_rfl) (fun _ h => by cases h) fsUndone_row_tie rfl ⟨rfl, rfl⟩ (by kernel_rfl) rfl plain (by kernel_rfl)
end Go.Proofs.YtkcnephbaffmbaaGreatDoor.fsUndone
namespace Go.Proofs.YtkcnephbaffmbaaGreatDoor
theorem fsUndone_holds : Rows.FsUndoneCardSaid := fsUndone.card
#print axioms fsUndone_holds
end Go.Proofs.YtkcnephbaffmbaaGreatDoor
