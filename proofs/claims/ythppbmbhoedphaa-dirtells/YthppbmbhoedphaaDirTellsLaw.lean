/-
  DirTells: for every entries, every entry and every name the law answers true: what is found, added, removed is the document's; what is handed in stays. No condition.
-/
import Derived.Test.YthppbmbhoedphaaAlive
import Derived.ChangeMaps5
namespace Go.Proofs.Ythppbmbhoedphaa.dirTells
open Go.ChangeShapes Go.WideShapes Go.ChangeAt Go.RowKit Go.ChangeMaps

set_option maxRecDepth 100000 in
set_option maxHeartbeats 4000000 in
theorem walk (v : Value) (l : List En) (us : List Value) (p : En) (nm : ByteArray) (w : World) (h : ArgE 0 w v l) (hf : l.length * 24 ≤ 140737488351232) (hp : enF.lies 0 w us p) : Calls Try.prog 3 #[v, .agg us.toArray, .string nm] w fun e w' => e = .returned (.bool true) ∧ Below w.heap.size w w' := by
  obtain ⟨rfl, hok⟩ := en_view hp
  obtain ⟨s, x⟩ := p
  show Calls Try.prog 3 #[v, .agg #[.string s, .int .i64 x], .string nm] w _
  obtain ⟨U0, hU0⟩ : ∃ U, U = w.alloc (.cells #[.string s, .int .i64 x] 24) := ⟨_, rfl⟩
  have hb0 : Below w.heap.size w U0 := by rw [hU0]; exact (Below.refl _ w).alloc (Nat.le_refl _) _
  have KF : Hid (∀ V, Below U0.heap.size U0 V → Box V w.heap.size 24 #[.string s, .int .i64 x] ∧ ArgE 0 V v l ∧ Below w.heap.size w V) := fun V hV => by
    have hB : Box U0 w.heap.size 24 #[.string s, .int .i64 x] := by rw [hU0]; exact Box.new _ _ _
    have hbb := below_any hb0 hV
    exact ⟨hB.below hV hB.lt, h.below hbb, hbb⟩
  have HI : Hid (EOk (s, x)) := hok
  have H1 := of_any 0 v l U0 (h.below hb0) hf
  obtain ⟨A, hA⟩ : ∃ A, A = fno l nm := ⟨_, rfl⟩
  obtain ⟨I, hI⟩ : ∃ A, A = fis l nm := ⟨_, rfl⟩
  obtain ⟨C, hC⟩ : ∃ A, A = cerr l := ⟨_, rfl⟩
  obtain ⟨E1, hE1⟩ : ∃ A, A = aerr l (s, x) := ⟨_, rfl⟩
  obtain ⟨R1, hR1⟩ : ∃ A, A = aval l (s, x) := ⟨_, rfl⟩
  obtain ⟨E2, hE2⟩ : ∃ A, A = rerr l nm := ⟨_, rfl⟩
  obtain ⟨R2, hR2⟩ : ∃ A, A = rval l nm := ⟨_, rfl⟩
  obtain ⟨M, hM⟩ : ∃ A, A = nerr nm := ⟨_, rfl⟩
  have HV : Hid (A = fno l nm ∧ I = fis l nm ∧ C = cerr l ∧ E1 = aerr l (s, x) ∧ R1 = aval l (s, x) ∧ E2 = rerr l nm ∧ R2 = rval l nm ∧ M = nerr nm) := ⟨hA, hI, hC, hE1, hR1, hE2, hR2, hM⟩
  clear h hf hp hb0 hok hA hI hC hE1 hR1 hE2 hR2 hM
  go_enter Try.func3, Try.ntmps3
  go_wp2_with fail
  rw [← hU0]
  clear hU0
  refine H1.mono ?_
  rintro e w1 ⟨⟨v1, rfl, hO1⟩, hb1⟩
  have HB1 : Hid (Below U0.heap.size U0 w1) := hb1
  have KO : Hid (∀ V, Below w1.heap.size w1 V → ArgE U0.heap.size V v1 l) := fun V hV => hO1.arg.below hV
  have H2 := find_any U0.heap.size v1 l nm w1 hO1.arg
  rw [← HV.out.1, ← HV.out.2.1, ← HV.out.2.2.1] at H2
  clear H1 hO1 hb1
  go_wp2_with fail
  refine H2.mono ?_
  rintro e w2 ⟨rfl, hb2⟩
  have HB2 : Hid (Below U0.heap.size U0 w2 ∧ Below w1.heap.size w1 w2) := ⟨below_any HB1.out hb2, hb2⟩
  have H3 := rfind_any 0 v l nm w2 (KF.out w2 HB2.out.1).2.1
  rw [← HV.out.1, ← HV.out.2.1, ← HV.out.2.2.1] at H3
  clear H2 hb2
  go_wp2_with fail
  refine H3.mono ?_
  rintro e w3 ⟨rfl, q3, hq3⟩
  have hb3 : Below w2.heap.size w2 w3 := by rw [hq3]; exact below_drewN (Below.refl _ _) _
  have HB3 : Hid (Below U0.heap.size U0 w3 ∧ Below w1.heap.size w1 w3) := ⟨below_any HB2.out.1 hb3, below_any HB2.out.2 hb3⟩
  obtain ⟨g0, g1, _, _⟩ := (KF.out w3 HB3.out.1).1.two
  have H4 := add_any U0.heap.size v1 l (s, x) w3 (KO.out w3 HB3.out.2) HI.out
  rw [← HV.out.2.2.2.1, ← HV.out.2.2.2.2.1] at H4
  clear H3 hb3 hq3
  go_wp2_with fail
  clear g0 g1
  refine H4.mono ?_
  rintro e w4 ⟨⟨v4, rfl, hO4⟩, hb4⟩
  have HB4 : Hid (Below U0.heap.size U0 w4 ∧ Below w1.heap.size w1 w4) := ⟨below_any HB3.out.1 hb4, below_any HB3.out.2 hb4⟩
  have K4 : Hid (∀ V, Below w4.heap.size w4 V → ArgE w3.heap.size V v4 R1) := fun V hV => hO4.arg.below hV
  obtain ⟨g0, g1, _, _⟩ := (KF.out w4 HB4.out.1).1.two
  have H5 := radd_any 0 v l (s, x) w4 (KF.out w4 HB4.out.1).2.1 HI.out
  rw [← HV.out.2.2.2.1, ← HV.out.2.2.2.2.1] at H5
  clear H4 hb4 hO4
  go_wp2_with fail
  clear g0 g1
  refine H5.mono ?_
  rintro e w5 ⟨⟨v5, rfl, hO5⟩, hb5⟩
  have HB5 : Hid (Below U0.heap.size U0 w5 ∧ Below w1.heap.size w1 w5 ∧ Below w4.heap.size w4 w5) := ⟨below_any HB4.out.1 hb5, below_any HB4.out.2 hb5, hb5⟩
  have K5 : Hid (∀ V, Below w5.heap.size w5 V → ArgE w4.heap.size V v5 R1) := fun V hV => hO5.arg.below hV
  have H6 := remove_any U0.heap.size v1 l nm w5 (KO.out w5 HB5.out.2.1)
  rw [← HV.out.2.2.2.2.2.1, ← HV.out.2.2.2.2.2.2.1] at H6
  clear H5 hb5 hO5
  go_wp2_with fail
  refine H6.mono ?_
  rintro e w6 ⟨⟨v6, rfl, hO6⟩, hb6⟩
  have HB6 : Hid (Below U0.heap.size U0 w6 ∧ Below w1.heap.size w1 w6 ∧ Below w4.heap.size w4 w6 ∧ Below w5.heap.size w5 w6) := ⟨below_any HB5.out.1 hb6, below_any HB5.out.2.1 hb6, below_any HB5.out.2.2 hb6, hb6⟩
  have K6 : Hid (∀ V, Below w6.heap.size w6 V → ArgE w5.heap.size V v6 R2) := fun V hV => hO6.arg.below hV
  have H7 := rremove_any 0 v l nm w6 (KF.out w6 HB6.out.1).2.1
  rw [← HV.out.2.2.2.2.2.1, ← HV.out.2.2.2.2.2.2.1] at H7
  clear H6 hb6 hO6
  go_wp2_with fail
  refine H7.mono ?_
  rintro e w7 ⟨⟨v7, rfl, hO7⟩, hb7⟩
  have HB7 : Hid (Below U0.heap.size U0 w7 ∧ Below w1.heap.size w1 w7 ∧ Below w4.heap.size w4 w7 ∧ Below w5.heap.size w5 w7 ∧ Below w6.heap.size w6 w7) := ⟨below_any HB6.out.1 hb7, below_any HB6.out.2.1 hb7, below_any HB6.out.2.2.1 hb7, below_any HB6.out.2.2.2 hb7, hb7⟩
  have K7 : Hid (∀ V, Below w7.heap.size w7 V → ArgE w6.heap.size V v7 R2) := fun V hV => hO7.arg.below hV
  have H8 := alike_any w3.heap.size w4.heap.size v4 v5 R1 R1 w7 (K4.out w7 HB7.out.2.2.1) (K5.out w7 HB7.out.2.2.2.1)
  rw [if_pos rfl] at H8
  clear H7 hb7 hO7
  go_wp2_with (go_at_call 16; refine (num_any _ _).mono ?_; rintro e w9 ⟨rfl, rfl⟩)
  refine H8.mono ?_
  rintro e w8 ⟨rfl, q8, hq8⟩
  have hb8 : Below w7.heap.size w7 w8 := by rw [hq8]; exact below_drewN (Below.refl _ _) _
  have HB8 : Hid (Below U0.heap.size U0 w8 ∧ Below w1.heap.size w1 w8 ∧ Below w6.heap.size w6 w8 ∧ Below w7.heap.size w7 w8) := ⟨below_any HB7.out.1 hb8, below_any HB7.out.2.1 hb8, below_any HB7.out.2.2.2.2 hb8, hb8⟩
  have H9 := alike_any w5.heap.size w6.heap.size v6 v7 R2 R2 w8 (K6.out w8 HB8.out.2.2.1) (K7.out w8 HB8.out.2.2.2)
  rw [if_pos rfl] at H9
  clear H8 hb8 hq8
  go_wp2_with (go_at_call 16; refine (num_any _ _).mono ?_; rintro e w9 ⟨rfl, rfl⟩)
  refine H9.mono ?_
  rintro e w9 ⟨rfl, q9, hq9⟩
  have hb9 : Below w8.heap.size w8 w9 := by rw [hq9]; exact below_drewN (Below.refl _ _) _
  have HB9 : Hid (Below U0.heap.size U0 w9 ∧ Below w1.heap.size w1 w9) := ⟨below_any HB8.out.1 hb9, below_any HB8.out.2.1 hb9⟩
  have H10 := check_any U0.heap.size v1 l w9 (KO.out w9 HB9.out.2)
  rw [← HV.out.2.2.1] at H10
  clear H9 hb9 hq9
  go_wp2_with (go_at_call 16; refine (num_any _ _).mono ?_; rintro e w10 ⟨rfl, rfl⟩)
  refine H10.mono ?_
  rintro e w10 ⟨rfl, hb10⟩
  have HB10 : Hid (Below U0.heap.size U0 w10 ∧ Below w1.heap.size w1 w10) := ⟨below_any HB9.out.1 hb10, below_any HB9.out.2 hb10⟩
  have H11 := rcheck_any 0 v l w10 (KF.out w10 HB10.out.1).2.1
  rw [← HV.out.2.2.1] at H11
  clear H10 hb10
  go_wp2_with (go_at_call 16; refine (num_any _ _).mono ?_; rintro e w11 ⟨rfl, rfl⟩)
  refine H11.mono ?_
  rintro e w11 ⟨rfl, q11, hq11⟩
  have hb11 : Below w10.heap.size w10 w11 := by rw [hq11]; exact below_drewN (Below.refl _ _) _
  have HB11 : Hid (Below U0.heap.size U0 w11 ∧ Below w1.heap.size w1 w11) := ⟨below_any HB10.out.1 hb11, below_any HB10.out.2 hb11⟩
  have H12 := name_any nm w11
  rw [← HV.out.2.2.2.2.2.2.2] at H12
  clear H11 hb11 hq11
  go_wp2_with fail
  refine H12.mono ?_
  rintro e w12 ⟨rfl, hb12⟩
  have HB12 : Hid (Below U0.heap.size U0 w12 ∧ Below w1.heap.size w1 w12) := ⟨below_any HB11.out.1 hb12, below_any HB11.out.2 hb12⟩
  have H13 := rname_any nm w12
  rw [← HV.out.2.2.2.2.2.2.2] at H13
  have H14 := alike_any U0.heap.size 0 v1 v l l w12 (KO.out w12 HB12.out.2) (KF.out w12 HB12.out.1).2.1
  rw [if_pos rfl] at H14
  clear H12 hb12
  go_wp2_with (first | (go_at_call 16; refine (num_any _ _).mono ?_; rintro e w13 ⟨rfl, rfl⟩) | (go_at_call 21; refine H13.mono ?_; rintro e w13 ⟨rfl, rfl⟩))
  refine H14.mono ?_
  rintro e w14 ⟨rfl, q14, hq14⟩
  have hb14 : Below w12.heap.size w12 w14 := by rw [hq14]; exact below_drewN (Below.refl _ _) _
  have HB14 : Hid (Below w.heap.size w w14) := (KF.out w14 (below_any HB12.out.1 hb14)).2.2
  have H15 := alive_any w14
  clear H14 H13 hb14 hq14
  go_wp2_with fail
  refine H15.mono ?_
  rintro e w15 ⟨rfl, hb15⟩
  go_wp2
  go_ret
  exact ⟨rfl, below_any HB14.out hb15⟩

set_option maxRecDepth 100000 in
theorem lifted (os : Os) (started : os.Started) (H : Type) (enc : TypeId × Value → H) :
    ReturnsInHanded {} Try.checked os 3 .any (Rows.dirTellsSpec.pre6 enc Try.prog Try.f3 Rows.dirTellsRow.domain false) (Rows.dirTellsSpec.post enc Try.prog Try.f3 false true false false) := by
  refine returnsInHanded_of_change_sized (C := Try.checked) own started (by kernel_rfl) Try.func3
    (ChangeSpec.witness6 (enc := enc) (C := Try.checked) false ⟨#[], #[.slice none 0 0, .agg #[.string ⟨#[]⟩, .int .i64 0], .string ⟨#[]⟩], []⟩ 8 (by kernel_rfl) (by kernel_rfl) (by kernel_rfl) (by kernel_rfl)) ?_
  intro W base args ds gs before hval0 hW hcnd hsz0 _
  have hval : ∀ (j : Nat) t v, Try.f3.params[j]? = some t → args[j]? = some v → Value.okWide Try.prog W .any base t v := hval0
  have hW' := hW
  obtain ⟨p, q, hA0, hV, rfl, hfz, hnd⟩ := hW
  have hA : DataW.TrodAll enc Try.prog W 0 (fun _ => true) true Try.f3.params.toList args.toList ds p := hA0
  have hsz : (DataW.weightsEach Try.prog (Try.f3.params.toList ++ Rows.dirTellsSpec.plain.varTypes Try.prog) (ds ++ gs)).all (· ≤ reachBytes) = true := hsz0
  clear hsz0
  rw [Try.params3] at hA hval hsz
  obtain ⟨v0, vs0, d0, ds0, p0, q0, hargs, rfl, rfl, h0, r0⟩ := trodAll_cons hA
  obtain ⟨v1, vs1, d1, ds1, p1, q1, rfl, rfl, rfl, h1, r1⟩ := trodAll_cons r0
  obtain ⟨v2, vs2, d2, ds2, p2, q2, rfl, rfl, rfl, h2, r2⟩ := trodAll_cons r1
  obtain ⟨rfl, rfl, rfl⟩ := trodAll_nil r2
  obtain rfl : args = #[v0, v1, v2] := by cases args; simp_all
  obtain ⟨rfl, rfl⟩ := trodVars_none hV
  obtain ⟨x0, len0, cap0, rfl⟩ := okWide_slice Try.underlying22 (hval 0 22 v0 rfl rfl)
  have k0 := h0
  have lt0 : ∀ x ∈ p0, x.block < W.heap.size := by obtain ⟨m, hm⟩ := k0; exact DataW.trod_lt m _ _ _ hm
  obtain ⟨m0, hm0⟩ := h0
  obtain ⟨s0, A0, F0'⟩ := ensR.reads hm0
  have F0 := F0' fun n hn => by have := List.all_eq_true.1 hsz _ (DataW.weights_mem_each (j := 0) rfl rfl n hn); simpa using this
  obtain ⟨cs1, rfl, hc1⟩ := okWide_struct Try.underlying24 (hval 1 24 v1 rfl rfl)
  obtain ⟨us1, rfl⟩ := as_list cs1
  have k1 := h1
  have lt1 : ∀ x ∈ p1, x.block < W.heap.size := by obtain ⟨m, hm⟩ := k1; exact DataW.trod_lt m _ _ _ hm
  obtain ⟨m1, hm1⟩ := h1
  obtain ⟨s1, A1, F1'⟩ := enR.reads hm1
  have F1 := F1' fun n hn => by have := List.all_eq_true.1 hsz _ (DataW.weights_mem_each (j := 1) rfl rfl n hn); simpa using this
  obtain ⟨t2, rfl, rfl, rfl, z2⟩ := open_string Try.underlying9 (hval 2 9 v2 rfl rfl) h2
  clear hA0 hval0
  refine (walk _ s0 us1 s1 t2 W (args_of A0) (fits_of F0) A1).mono fun e W' ⟨he, bel⟩ => ?_
  subst he
  exact ⟨_, rfl, _, _, _, [], _, [], hW', trodAll_mk1 (shut_bool Try.underlying4 _), (trodAll_cons_mk (Below.trod laidOut (by kernel_rfl) (of_decide_eq_true (by kernel_rfl)) k0 bel lt0) (trodAll_cons_mk (Below.trod laidOut (by kernel_rfl) (of_decide_eq_true (by kernel_rfl)) k1 bel lt1) (trodAll_cons_mk (shut_string Try.underlying9 z2) trodAll_mk0))), rfl, bel.frame _, fun h => by cases h⟩

theorem over : Rows.dirTellsRow.holds Try.pinned (OpenSpec.ofChange Rows.dirTellsSpec) :=
  OpenClaim.holds_of_wide 3 Try.f3 rfl rfl rfl rfl rfl rfl rfl ⟨rfl, rfl, rfl, rfl, rfl⟩ rfl rfl rfl rfl rfl (by kernel_rfl) Try.func3 (by kernel_rfl)
    (of_decide_eq_true (by kernel_rfl)) (by unfold Func.isWrapper; first | (rw [if_pos (by decide +kernel)]; kernel_rfl) | (rw [if_neg (by decide +kernel)]; exact ⟨rfl, rfl⟩))
    (fun os started H enc _ => lifted os started H enc)

end Go.Proofs.Ythppbmbhoedphaa.dirTells

namespace Go.Proofs.Ythppbmbhoedphaa
theorem dirTells_holds : Rows.DirTellsSaid := dirTells.over
#print axioms dirTells_holds
end Go.Proofs.Ythppbmbhoedphaa
