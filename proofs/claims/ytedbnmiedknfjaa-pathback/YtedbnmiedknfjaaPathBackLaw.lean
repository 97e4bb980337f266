/-
  PathBack: for every text and all lists of texts the law answers true: names go through a path; a path, split and joined, is made plain, and stays so. No condition.
-/
import Derived.Test.YtedbnmiedknfjaaLawMath
import Derived.ChangeMaps5
namespace Go.Proofs.Ytedbnmiedknfjaa.pathBack
open Go.ChangeShapes Go.WideShapes Go.ChangeAt Go.RowKit Go.ChangeMaps

set_option maxRecDepth 100000 in
set_option maxHeartbeats 4000000 in
theorem walk (s : ByteArray) (v : Value) (l : List ByteArray) (w : World) (h : ArgT 0 w v l) : Calls Try.prog 4 #[.string s, v] w fun e w' => e = .returned (.bool true) ∧ Below w.heap.size w w' := by
  have KL : Hid (∀ V, Below w.heap.size w V → ArgT 0 V v l) := fun V hV => h.below hV
  obtain ⟨T, hT⟩ : ∃ X, X = jval l := ⟨_, rfl⟩
  obtain ⟨E, hE⟩ : ∃ X, X = jerr l := ⟨_, rfl⟩
  obtain ⟨F, hF⟩ : ∃ X, X = serr s := ⟨_, rfl⟩
  obtain ⟨L, hL⟩ : ∃ X, X = sval s := ⟨_, rfl⟩
  have HQ : Hid (T = jval l ∧ E = jerr l ∧ F = serr s ∧ L = sval s) := ⟨hT, hE, hF, hL⟩
  clear h hT hE hF hL
  have H1 := alive_any w
  go_enter Try.func4, Try.ntmps4
  go_wp2_with fail
  refine H1.mono ?_
  rintro e w1 ⟨rfl, hb1⟩
  have HB1 : Hid (Below w.heap.size w w1) := hb1
  have H2 := join_any 0 v l w1 (KL.out w1 hb1)
  rw [← HQ.out.1, ← HQ.out.2.1] at H2
  clear H1 hb1
  go_wp2_with fail
  refine H2.mono ?_
  rintro e w2 ⟨rfl, hb2⟩
  have HB2 : Hid (Below w.heap.size w w2) := below_any HB1.out hb2
  clear H2 hb2
  by_cases hE0 : E = 0
  · have hj : jerr l = 0 := by rw [← HQ.out.2.1]; exact hE0
    have hT : T = jt l := by rw [HQ.out.1]; exact jval_zero hj
    obtain ⟨g1, g2⟩ := split_jt hj
    rw [← hT] at g1 g2
    have H3 := split_any T w2
    rw [g1, g2] at H3
    subst hE0
    clear hj hT g1 g2
    go_wp2_with (go_at_call 18; refine (num_any _ _).mono ?_; rintro e wn ⟨rfl, rfl⟩)
    refine H3.mono ?_
    rintro e w3 ⟨u, rfl, hO3, hb3⟩
    have HB3 : Hid (Below w.heap.size w w3) := below_any HB2.out hb3
    have H4 := same_any w2.heap.size 0 u v l l w3 hO3.arg (KL.out w3 HB3.out)
    rw [decide_eq_true rfl] at H4
    clear H3 hO3 hb3
    go_wp2_with (go_at_call 18; refine (num_any _ _).mono ?_; rintro e wn ⟨rfl, rfl⟩)
    refine H4.mono ?_
    rintro e w4 ⟨rfl, q, hq⟩
    have HB4 : Hid (Below w.heap.size w w4) := by show Below _ _ _; rw [hq]; exact below_drewN HB3.out _
    clear H4 hq
    have H5 := split_any s w4
    rw [← HQ.out.2.2.1, ← HQ.out.2.2.2] at H5
    go_wp2_with (go_at_call 18; refine (num_any _ _).mono ?_; rintro e wn ⟨rfl, rfl⟩)
    refine H5.mono ?_
    rintro e w5 ⟨u5, rfl, hO5, hb5⟩
    have HB5 : Hid (Below w.heap.size w w5) := below_any HB4.out hb5
    have K5 : Hid (∀ V, Below w5.heap.size w5 V → ArgT w4.heap.size V u5 L) := fun V hV => hO5.arg.below hV
    clear H5 hO5 hb5
    by_cases hF0 : F = 0
    · have hs : serr s = 0 := by rw [← HQ.out.2.2.1]; exact hF0
      obtain ⟨j1, j2, j3⟩ := join_all hs
      rw [← HQ.out.2.2.2] at j1 j2
      obtain ⟨g1, g2⟩ := split_jt j1
      obtain ⟨U, hU⟩ : ∃ U, U = jt L := ⟨_, rfl⟩
      have H6 := join_any w4.heap.size u5 L w5 (K5.out w5 (Below.refl _ _))
      rw [jval_zero j1, j1, ← hU] at H6
      rw [← hU] at g1 g2 j2
      have HU : Hid (∀ W, Calls Try.prog 9 #[.string U] W fun e w' => ∃ v, e = .returned (.tuple #[v, .int .i64 0]) ∧ OwnT W.heap.size w' v L ∧ Below W.heap.size W w') := fun W => by
        have := split_any U W
        rwa [g1, g2] at this
      have hsz : (U.size : Int) ≤ (s.size : Int) := by omega
      have hs1 : (1 : Int) ≤ (s.size : Int) := by omega
      have HZ : Hid ((U.size : Int) ≤ max (s.size : Int) 1) := by show _ ≤ _; omega
      subst hF0
      clear hs j1 j2 j3 g1 g2 hU
      go_wp2_with (go_at_call 18; refine (num_any _ _).mono ?_; rintro e wn ⟨rfl, rfl⟩)
      refine H6.mono ?_
      rintro e w6 ⟨rfl, hb6⟩
      have HB6 : Hid (Below w.heap.size w w6 ∧ Below w5.heap.size w5 w6) := ⟨below_any HB5.out hb6, hb6⟩
      have H7 := HU.out w6
      clear H6 hb6 HU
      go_wp2_with fail
      refine H7.mono ?_
      rintro e w7 ⟨u7, rfl, hO7, hb7⟩
      have HB7 : Hid (Below w.heap.size w w7 ∧ Below w5.heap.size w5 w7) := ⟨below_any HB6.out.1 hb7, below_any HB6.out.2 hb7⟩
      have H8 := same_any w4.heap.size w6.heap.size u5 u7 L L w7 (K5.out w7 HB7.out.2) hO7.arg
      rw [decide_eq_true rfl] at H8
      clear H7 hO7 hb7
      go_wp2_with (go_at_call 18; refine (num_any _ _).mono ?_; rintro e wn ⟨rfl, rfl⟩)
      refine H8.mono ?_
      rintro e w8 ⟨rfl, q8, hq8⟩
      have HB8 : Hid (Below w.heap.size w w8) := by show Below _ _ _; rw [hq8]; exact below_drewN HB7.out.1 _
      clear H8 hq8
      have hmax : max (s.size : Int) 1 = (s.size : Int) := by omega
      go_wp2
      go_ret
      exact ⟨rfl, HB8.out⟩
    · have hl : L = [] := by rw [HQ.out.2.2.2]; exact sval_bad (by rw [← HQ.out.2.2.1]; exact hF0)
      have bF : (F == 0) = false := beq_false_of_ne hF0
      subst hl
      obtain ⟨a, c, rfl, _⟩ := (K5.out w5 (Below.refl _ _)).shape
      have hr := run_len Try.underlying22 a 0 c
      clear hF0 K5
      go_wp2_with (go_at_call 18; refine (num_any _ _).mono ?_; rintro e wn ⟨rfl, rfl⟩)
      go_ret
      exact ⟨rfl, HB5.out⟩
  · have b0 : (E == 0) = false := beq_false_of_ne hE0
    obtain ⟨w4, hw4⟩ : ∃ W, W = w2 := ⟨_, rfl⟩
    have HB4 : Hid (Below w.heap.size w w4) := by show Below _ _ _; rw [hw4]; exact HB2.out
    rw [← hw4]
    clear hw4 hE0 HB2
    have H5 := split_any s w4
    rw [← HQ.out.2.2.1, ← HQ.out.2.2.2] at H5
    go_wp2_with (go_at_call 18; refine (num_any _ _).mono ?_; rintro e wn ⟨rfl, rfl⟩)
    refine H5.mono ?_
    rintro e w5 ⟨u5, rfl, hO5, hb5⟩
    have HB5 : Hid (Below w.heap.size w w5) := below_any HB4.out hb5
    have K5 : Hid (∀ V, Below w5.heap.size w5 V → ArgT w4.heap.size V u5 L) := fun V hV => hO5.arg.below hV
    clear H5 hO5 hb5
    by_cases hF0 : F = 0
    · have hs : serr s = 0 := by rw [← HQ.out.2.2.1]; exact hF0
      obtain ⟨j1, j2, j3⟩ := join_all hs
      rw [← HQ.out.2.2.2] at j1 j2
      obtain ⟨g1, g2⟩ := split_jt j1
      obtain ⟨U, hU⟩ : ∃ U, U = jt L := ⟨_, rfl⟩
      have H6 := join_any w4.heap.size u5 L w5 (K5.out w5 (Below.refl _ _))
      rw [jval_zero j1, j1, ← hU] at H6
      rw [← hU] at g1 g2 j2
      have HU : Hid (∀ W, Calls Try.prog 9 #[.string U] W fun e w' => ∃ v, e = .returned (.tuple #[v, .int .i64 0]) ∧ OwnT W.heap.size w' v L ∧ Below W.heap.size W w') := fun W => by
        have := split_any U W
        rwa [g1, g2] at this
      have hsz : (U.size : Int) ≤ (s.size : Int) := by omega
      have hs1 : (1 : Int) ≤ (s.size : Int) := by omega
      have HZ : Hid ((U.size : Int) ≤ max (s.size : Int) 1) := by show _ ≤ _; omega
      subst hF0
      clear hs j1 j2 j3 g1 g2 hU
      go_wp2_with (go_at_call 18; refine (num_any _ _).mono ?_; rintro e wn ⟨rfl, rfl⟩)
      refine H6.mono ?_
      rintro e w6 ⟨rfl, hb6⟩
      have HB6 : Hid (Below w.heap.size w w6 ∧ Below w5.heap.size w5 w6) := ⟨below_any HB5.out hb6, hb6⟩
      have H7 := HU.out w6
      clear H6 hb6 HU
      go_wp2_with fail
      refine H7.mono ?_
      rintro e w7 ⟨u7, rfl, hO7, hb7⟩
      have HB7 : Hid (Below w.heap.size w w7 ∧ Below w5.heap.size w5 w7) := ⟨below_any HB6.out.1 hb7, below_any HB6.out.2 hb7⟩
      have H8 := same_any w4.heap.size w6.heap.size u5 u7 L L w7 (K5.out w7 HB7.out.2) hO7.arg
      rw [decide_eq_true rfl] at H8
      clear H7 hO7 hb7
      go_wp2_with (go_at_call 18; refine (num_any _ _).mono ?_; rintro e wn ⟨rfl, rfl⟩)
      refine H8.mono ?_
      rintro e w8 ⟨rfl, q8, hq8⟩
      have HB8 : Hid (Below w.heap.size w w8) := by show Below _ _ _; rw [hq8]; exact below_drewN HB7.out.1 _
      clear H8 hq8
      have hmax : max (s.size : Int) 1 = (s.size : Int) := by omega
      go_wp2
      go_ret
      exact ⟨rfl, HB8.out⟩
    · have hl : L = [] := by rw [HQ.out.2.2.2]; exact sval_bad (by rw [← HQ.out.2.2.1]; exact hF0)
      have bF : (F == 0) = false := beq_false_of_ne hF0
      subst hl
      obtain ⟨a, c, rfl, _⟩ := (K5.out w5 (Below.refl _ _)).shape
      have hr := run_len Try.underlying22 a 0 c
      clear hF0 K5
      go_wp2_with (go_at_call 18; refine (num_any _ _).mono ?_; rintro e wn ⟨rfl, rfl⟩)
      go_ret
      exact ⟨rfl, HB5.out⟩

set_option maxRecDepth 100000 in
theorem lifted (os : Os) (started : os.Started) (H : Type) (enc : TypeId × Value → H) :
    ReturnsInHanded {} Try.checked os 4 .any (Rows.pathBackSpec.pre6 enc Try.prog Try.f4 Rows.pathBackRow.domain false) (Rows.pathBackSpec.post enc Try.prog Try.f4 false true false false) := by
  refine returnsInHanded_of_change_sized (C := Try.checked) own started (by kernel_rfl) Try.func4
    (ChangeSpec.witness6 (enc := enc) (C := Try.checked) false ⟨#[], #[.string ⟨#[]⟩, .slice none 0 0], []⟩ 8 (by kernel_rfl) (by kernel_rfl) (by kernel_rfl) (by kernel_rfl)) ?_
  intro W base args ds gs before hval0 hW hcnd hsz0 _
  have hval : ∀ (j : Nat) t v, Try.f4.params[j]? = some t → args[j]? = some v → Value.okWide Try.prog W .any base t v := hval0
  have hW' := hW
  obtain ⟨p, q, hA0, hV, rfl, hfz, hnd⟩ := hW
  have hA : DataW.TrodAll enc Try.prog W 0 (fun _ => true) true Try.f4.params.toList args.toList ds p := hA0
  have hsz : (DataW.weightsEach Try.prog (Try.f4.params.toList ++ Rows.pathBackSpec.plain.varTypes Try.prog) (ds ++ gs)).all (· ≤ reachBytes) = true := hsz0
  clear hsz0
  rw [Try.params4] at hA hval hsz
  obtain ⟨v0, vs0, d0, ds0, p0, q0, hargs, rfl, rfl, h0, r0⟩ := trodAll_cons hA
  obtain ⟨v1, vs1, d1, ds1, p1, q1, rfl, rfl, rfl, h1, r1⟩ := trodAll_cons r0
  obtain ⟨rfl, rfl, rfl⟩ := trodAll_nil r1
  obtain rfl : args = #[v0, v1] := by cases args; simp_all
  obtain ⟨rfl, rfl⟩ := trodVars_none hV
  obtain ⟨t0, rfl, rfl, rfl, z0⟩ := open_string Try.underlying9 (hval 0 9 v0 rfl rfl) h0
  obtain ⟨x1, len1, cap1, rfl⟩ := okWide_slice Try.underlying22 (hval 1 22 v1 rfl rfl)
  have k1 := h1
  have lt1 : ∀ x ∈ p1, x.block < W.heap.size := by obtain ⟨m, hm⟩ := k1; exact DataW.trod_lt m _ _ _ hm
  obtain ⟨m1, hm1⟩ := h1
  obtain ⟨s1, A1, F1'⟩ := textsS.reads hm1
  have F1 := F1' fun n hn => by have := List.all_eq_true.1 hsz _ (DataW.weights_mem_each (j := 1) rfl rfl n hn); simpa using this
  clear hA0 hval0
  refine (walk t0 _ s1 W (texts_of A1)).mono fun e W' ⟨he, bel⟩ => ?_
  subst he
  exact ⟨_, rfl, _, _, _, [], _, [], hW', trodAll_mk1 (shut_bool Try.underlying4 _), (trodAll_cons_mk (shut_string Try.underlying9 z0) (trodAll_cons_mk (Below.trod laidOut (by kernel_rfl) (of_decide_eq_true (by kernel_rfl)) k1 bel lt1) trodAll_mk0)), rfl, bel.frame _, fun h => by cases h⟩

theorem over : Rows.pathBackRow.holds Try.pinned (OpenSpec.ofChange Rows.pathBackSpec) :=
  OpenClaim.holds_of_wide 4 Try.f4 rfl rfl rfl rfl rfl rfl rfl ⟨rfl, rfl, rfl, rfl, rfl⟩ rfl rfl rfl rfl rfl (by kernel_rfl) Try.func4 (by kernel_rfl)
    (of_decide_eq_true (by kernel_rfl)) (by unfold Func.isWrapper; first | (rw [if_pos (by decide +kernel)]; kernel_rfl) | (rw [if_neg (by decide +kernel)]; exact ⟨rfl, rfl⟩))
    (fun os started H enc _ => lifted os started H enc)

end Go.Proofs.Ytedbnmiedknfjaa.pathBack

namespace Go.Proofs.Ytedbnmiedknfjaa
theorem pathBack_holds : Rows.PathBackSaid := pathBack.over
#print axioms pathBack_holds
end Go.Proofs.Ytedbnmiedknfjaa
