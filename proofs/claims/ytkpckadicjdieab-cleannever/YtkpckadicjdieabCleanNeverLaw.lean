/-
  CleanNever, proved: for every store and every two numbers (as great as the form reads them): the call returns true, and changes nothing that was in memory. No condition of its own.
-/
import Derived.Test.YtkpckadicjdieabXClean
import Derived.Test.YtkpckadicjdieabXAlive
import Derived.Test.YtkpckadicjdieabXMath2
import Derived.Test.YtkpckadicjdieabLOf
import Derived.Test.YtkpckadicjdieabLTool
import Derived.Test.YtkpckadicjdieabRLCheck
namespace Go.Proofs.Ytkpckadicjdieab.cleanNever
open Go.ChangeShapes Go.WideShapes Go.ChangeAt Go.RowKit
set_option linter.unusedVariables false

set_option maxRecDepth 100000 in
set_option maxHeartbeats 16000000 in
theorem walk (n0 : Nat) (us : List Value) (s : St) (k q : Int) (w : World) (h : stR.lies n0 w us s) (hf : FitsL s) :
    Calls Try.prog 4 #[.agg us.toArray, .int .i64 k, .int .i64 q] w fun e w' => e = .returned (.bool true) ∧ Below w.heap.size w w' := by
  obtain ⟨post, hpost⟩ : ∃ post : Ending → World → Prop, post = fun e w' => e = .returned (.bool true) ∧ Below w.heap.size w w' := ⟨_, rfl⟩
  have HPo : Hid (∀ w', Below w.heap.size w w' → post (.returned (.bool true)) w') := fun w' h => by rw [hpost]; exact ⟨rfl, h⟩
  rw [← hpost]
  clear hpost
  obtain ⟨a0, n0, c0, b0, m0, d0, e0, k0, f0, q0, rfl⟩ := st_flatL h
  have HF : Hid (FitsL s) := hf
  obtain ⟨W, hW⟩ : ∃ W, W = w.alloc (.cells #[.slice a0 n0 c0, .slice b0 m0 d0, .slice e0 k0 f0, .int .i64 q0] 26) := ⟨_, rfl⟩
  have HB : Hid (Below w.heap.size w W) := by rw [hW]; exact (Below.refl _ _).alloc (Nat.le_refl _) _
  have A0 : Hid (Box W w.heap.size 26 #[.slice a0 n0 c0, .slice b0 m0 d0, .slice e0 k0 f0, .int .i64 q0] ∧ stR.lies 0 W [.slice a0 n0 c0, .slice b0 m0 d0, .slice e0 k0 f0, .int .i64 q0] s) := ⟨by rw [hW]; exact Box.new _ _ _, stR.below (stR.weaken h (Nat.zero_le _)) HB.out⟩
  obtain ⟨ce, hce⟩ : ∃ z, z = clE s k q := ⟨_, rfl⟩
  have HE : Hid (ce = clE s k q) := hce
  clear hce
  clear h hf
  go_enter Try.func4, Try.ntmps4
  go_upto_region 1 with fail
  rw [← hW]
  clear hW
  have HC := alive16_any W
  go_wp2_with fail
  refine HC.mono ?_
  rintro e9 w9 ⟨rfl, rfl⟩
  clear HC
  have HC := ofL_any 0 [.slice a0 n0 c0, .slice b0 m0 d0, .slice e0 k0 f0, .int .i64 q0] s W A0.out.2 HF.out
  obtain ⟨A0c0, A0c1, A0c2, A0c3, -⟩ := A0.out.1.four
  go_wp2_with (go_at_call 11; refine (num16_any _ _).mono ?_; rintro e9 wn ⟨rfl, rfl⟩)
  clear A0c0 A0c1 A0c2 A0c3
  refine HC.mono ?_
  rintro e9 w1 ⟨⟨us9, rfl, ho9⟩, hb9⟩
  obtain ⟨a1, n1, c1, b1, m1, d1, e1, k1, f1, q1, rfl⟩ := st_fl ho9
  have O1 : Hid (stN.lies 0 w1 [.slice a1 n1 c1, .slice b1 m1 d1, .slice e1 k1 f1, .int .i64 q1] s) := stN.weaken (stN.olies ho9) (Nat.zero_le _)
  replace A0 : Hid (Box w1 w.heap.size 26 #[.slice a0 n0 c0, .slice b0 m0 d0, .slice e0 k0 f0, .int .i64 q0] ∧ stR.lies 0 w1 [.slice a0 n0 c0, .slice b0 m0 d0, .slice e0 k0 f0, .int .i64 q0] s) := ⟨A0.out.1.below hb9 A0.out.1.lt, stR.below A0.out.2 hb9⟩
  replace HB : Hid (Below w.heap.size w w1) := below_any HB.out hb9
  clear HC ho9 hb9
  have HC := clean_any 0 [.slice a1 n1 c1, .slice b1 m1 d1, .slice e1 k1 f1, .int .i64 q1] s k q w1 O1.out
  rw [← HE.out] at HC
  go_wp2_with (go_at_call 11; refine (num16_any _ _).mono ?_; rintro e9 wn ⟨rfl, rfl⟩)
  refine HC.mono ?_
  rintro e9 w2 ⟨⟨us9, rfl, ho9⟩, hb9⟩
  obtain ⟨a2, n2, c2, b2, m2, d2, e2, k2, f2, q2, rfl⟩ := st_fl ho9
  replace A0 : Hid (Box w2 w.heap.size 26 #[.slice a0 n0 c0, .slice b0 m0 d0, .slice e0 k0 f0, .int .i64 q0] ∧ stR.lies 0 w2 [.slice a0 n0 c0, .slice b0 m0 d0, .slice e0 k0 f0, .int .i64 q0] s) := ⟨A0.out.1.below hb9 A0.out.1.lt, stR.below A0.out.2 hb9⟩
  replace O1 : Hid (stN.lies 0 w2 [.slice a1 n1 c1, .slice b1 m1 d1, .slice e1 k1 f1, .int .i64 q1] s) := stN.below O1.out hb9
  replace HB : Hid (Below w.heap.size w w2) := below_any HB.out hb9
  obtain ⟨X2, hX2⟩ : ∃ X, X = w2.alloc (.cells #[.slice a2 n2 c2, .slice b2 m2 d2, .slice e2 k2 f2, .int .i64 q2] 31) := ⟨_, rfl⟩
  have hbX : Below w2.heap.size w2 X2 := by rw [hX2]; exact (Below.refl _ _).alloc (Nat.le_refl _) _
  have A2 : Hid (Box X2 w2.heap.size 31 #[.slice a2 n2 c2, .slice b2 m2 d2, .slice e2 k2 f2, .int .i64 q2] ∧ stN.lies 0 X2 [.slice a2 n2 c2, .slice b2 m2 d2, .slice e2 k2 f2, .int .i64 q2] (clS s k q)) := ⟨by rw [hX2]; exact Box.new _ _ _, stN.below (stN.weaken (stN.olies ho9) (Nat.zero_le _)) hbX⟩
  replace A0 : Hid (Box X2 w.heap.size 26 #[.slice a0 n0 c0, .slice b0 m0 d0, .slice e0 k0 f0, .int .i64 q0] ∧ stR.lies 0 X2 [.slice a0 n0 c0, .slice b0 m0 d0, .slice e0 k0 f0, .int .i64 q0] s) := ⟨A0.out.1.below hbX A0.out.1.lt, stR.below A0.out.2 hbX⟩
  replace O1 : Hid (stN.lies 0 X2 [.slice a1 n1 c1, .slice b1 m1 d1, .slice e1 k1 f1, .int .i64 q1] s) := stN.below O1.out hbX
  replace HB : Hid (Below w.heap.size w X2) := below_any HB.out hbX
  clear HC ho9 hb9 hbX
  go_upto_region 4 with fail
  rw [← hX2]
  clear hX2
  obtain ⟨ok, hok⟩ : ∃ z, z = okE s := ⟨_, rfl⟩
  have HOKE : Hid (ok = okE s) := hok
  clear hok
  have HC := rcheckL_any 0 [.slice a0 n0 c0, .slice b0 m0 d0, .slice e0 k0 f0, .int .i64 q0] s X2 A0.out.2
  rw [← HOKE.out] at HC
  obtain ⟨A0c0, A0c1, A0c2, A0c3, -⟩ := A0.out.1.four
  go_wp2_with (go_at_call 11; refine (num16_any _ _).mono ?_; rintro e9 wn ⟨rfl, rfl⟩)
  clear A0c0 A0c1 A0c2 A0c3
  refine HC.mono ?_
  rintro e9 w3 ⟨rfl, hb9⟩
  replace A0 : Hid (Box w3 w.heap.size 26 #[.slice a0 n0 c0, .slice b0 m0 d0, .slice e0 k0 f0, .int .i64 q0] ∧ stR.lies 0 w3 [.slice a0 n0 c0, .slice b0 m0 d0, .slice e0 k0 f0, .int .i64 q0] s) := ⟨A0.out.1.below hb9 A0.out.1.lt, stR.below A0.out.2 hb9⟩
  replace O1 : Hid (stN.lies 0 w3 [.slice a1 n1 c1, .slice b1 m1 d1, .slice e1 k1 f1, .int .i64 q1] s) := stN.below O1.out hb9
  replace A2 : Hid (Box w3 w2.heap.size 31 #[.slice a2 n2 c2, .slice b2 m2 d2, .slice e2 k2 f2, .int .i64 q2] ∧ stN.lies 0 w3 [.slice a2 n2 c2, .slice b2 m2 d2, .slice e2 k2 f2, .int .i64 q2] (clS s k q)) := ⟨A2.out.1.below hb9 A2.out.1.lt, stN.below A2.out.2 hb9⟩
  replace HB : Hid (Below w.heap.size w w3) := below_any HB.out hb9
  clear HC hb9
  have HQ : Hid (post (.returned (.bool true)) w3) := HPo.out _ HB.out
  obtain ⟨x0, x1, x2, x3, -⟩ := A0.out.1.four
  obtain ⟨y0, y1, y2, y3, -⟩ := A2.out.1.four
  have hl0 := run_len Try.underlying22 a0 n0 c0
  have hl2 := run_len Try.underlying28 a2 n2 c2
  rcases cl_cases s k q with ⟨h1, h2⟩ | ⟨h1, h2, h3⟩ | ⟨h1, i, p, rfl, hil, hp, hp0, h3⟩
  · obtain rfl : ok = 9 := HOKE.out.trans (okE_bad h1)
    obtain rfl : ce = 9 := HE.out.trans h2
    clear h1 h2
    go_wp2_with (go_at_call 11; refine (num16_any _ _).mono ?_; rintro e9 wn ⟨rfl, rfl⟩)
    exact HQ.out
  · obtain rfl : ok = 0 := HOKE.out.trans (okE_ok h1)
    obtain rfl : ce = 71 := HE.out.trans h2
    clear h1 h2
    rcases h3 with h3 | h3 | ⟨i, p, rfl, hil, hp, hp0⟩
    · go_wp2_with (go_at_call 11; refine (num16_any _ _).mono ?_; rintro e9 wn ⟨rfl, rfl⟩)
      exact HQ.out
    · have h4 : (n0 : Int) ≤ k := by have := (st_lenR A0.out.2).1; omega
      have h5 : ¬ k < 0 := by omega
      clear h3
      go_wp2_with (go_at_call 11; refine (num16_any _ _).mono ?_; rintro e9 wn ⟨rfl, rfl⟩)
      exact HQ.out
    · obtain ⟨gb, gof, ga, gc, hix, hc0, -⟩ := sgs_atR (st_segR A0.out.2).1 i p hp
      have hil2 : (i : Int) < (n0 : Int) := by have := (st_lenR A0.out.2).1; omega
      have hil3 : ¬ (n0 : Int) ≤ (i : Int) := by omega
      rw [hp0] at hc0
      clear hp hp0 hil
      go_wp2_with (go_at_call 11; refine (num16_any _ _).mono ?_; rintro e9 wn ⟨rfl, rfl⟩)
      exact HQ.out
  · obtain rfl : ok = 0 := HOKE.out.trans (okE_ok h1)
    obtain ⟨gb, gof, ga, gc, hix, hc0, -⟩ := sgs_atR (st_segR A0.out.2).1 i p hp
    have hil2 : (i : Int) < (n0 : Int) := by have := (st_lenR A0.out.2).1; omega
    have hil3 : ¬ (n0 : Int) ≤ (i : Int) := by omega
    obtain ⟨pq, hpq⟩ : ∃ z, z = p.1 := ⟨_, rfl⟩
    rw [← hpq] at hc0 hp0
    have hpb : (pq == 0) = false := by simpa using hp0
    rcases h3 with ⟨h3, h4⟩ | ⟨h3, h4⟩
    · have hn2 : n2 = 0 := by rw [(st_len A2.out.2).1, clS_no (by rw [h4]; decide)]; rfl
      subst hn2
      obtain rfl : ce = 81 := HE.out.trans h4
      have h5 : (pq != q) = true := by rw [hpq]; simpa using h3
      have h6 : ¬ pq = q := by rw [hpq]; exact h3
      clear hp hil h1 h3 h4 hpq
      go_wp2_with (go_at_call 11; refine (num16_any _ _).mono ?_; rintro e9 wn ⟨rfl, rfl⟩)
      exact HQ.out
    · obtain rfl : pq = q := hpq.trans h3
      clear hp hil h1 h3 hpq
      rcases h4 with h4 | h4
      · obtain rfl : ce = 0 := HE.out.trans h4
        clear h4
        go_wp2_with (go_at_call 11; refine (num16_any _ _).mono ?_; rintro e9 wn ⟨rfl, rfl⟩)
        exact HQ.out
      · obtain rfl : ce = 51 := HE.out.trans h4
        clear h4
        go_wp2_with (go_at_call 11; refine (num16_any _ _).mono ?_; rintro e9 wn ⟨rfl, rfl⟩)
        exact HQ.out

set_option maxRecDepth 100000 in
theorem lifted (os : Os) (started : os.Started) (H : Type) (enc : TypeId × Value → H) :
    ReturnsInHanded {} Try.checked os 4 .any (Rows.cleanNeverSpec.pre6 enc Try.prog Try.f4 Rows.cleanNeverRow.domain false) (Rows.cleanNeverSpec.post enc Try.prog Try.f4 false true false false) := by
  refine returnsInHanded_of_change_sized (C := Try.checked) own started (by kernel_rfl) Try.func4
    (ChangeSpec.witness6 (enc := enc) (C := Try.checked) false ⟨#[], #[.agg #[.slice none 0 0, .slice none 0 0, .slice none 0 0, .int .i64 0], .int .i64 0, .int .i64 0], []⟩ 8 (by kernel_rfl) (by kernel_rfl) (by kernel_rfl) (by kernel_rfl)) ?_
  intro W base args ds gs before hval0 hW hcnd hsz0 _
  have hval : ∀ (j : Nat) t v, Try.f4.params[j]? = some t → args[j]? = some v → Value.okWide Try.prog W .any base t v := hval0
  have hW' := hW
  obtain ⟨p, q, hA0, hV, rfl, hfz, hnd⟩ := hW
  have hA : DataW.TrodAll enc Try.prog W 0 (fun _ => true) true Try.f4.params.toList args.toList ds p := hA0
  have hsz : (DataW.weightsEach Try.prog (Try.f4.params.toList ++ Rows.cleanNeverSpec.plain.varTypes Try.prog) (ds ++ gs)).all (· ≤ reachBytes) = true := hsz0
  clear hsz0
  rw [Try.params4] at hA hval hsz
  obtain ⟨v0, vs0, d0, ds0, p0, q0, hargs, rfl, rfl, h0, r0⟩ := trodAll_cons hA
  obtain ⟨v1, vs1, d1, ds1, p1, q1, rfl, rfl, rfl, h1, r1⟩ := trodAll_cons r0
  obtain ⟨v2, vs2, d2, ds2, p2, q2, rfl, rfl, rfl, h2, r2⟩ := trodAll_cons r1
  obtain ⟨rfl, rfl, rfl⟩ := trodAll_nil r2
  obtain rfl : args = #[v0, v1, v2] := by cases args; simp_all
  obtain ⟨rfl, rfl⟩ := trodVars_none hV
  obtain ⟨cs0, rfl, hc0⟩ := okWide_struct Try.underlying26 (hval 0 26 v0 rfl rfl)
  obtain ⟨us0, rfl⟩ := as_list cs0
  have k0 := h0
  have lt0 : ∀ x ∈ p0, x.block < W.heap.size := by obtain ⟨m, hm⟩ := k0; exact DataW.trod_lt m _ _ _ hm
  obtain ⟨m0, hm0⟩ := h0
  obtain ⟨s0, A0, F0'⟩ := stR.reads hm0
  have F0 := F0' fun n hn => by have := List.all_eq_true.1 hsz _ (DataW.weights_mem_each (j := 0) rfl rfl n hn); simpa using this
  obtain ⟨a1, rfl, rfl, rfl, w1⟩ := open_int Try.underlying3 (hval 1 3 v1 rfl rfl) h1
  have b1 := bounds_i64 w1
  obtain ⟨a2, rfl, rfl, rfl, w2⟩ := open_int Try.underlying3 (hval 2 3 v2 rfl rfl) h2
  have b2 := bounds_i64 w2
  clear hA0 hval0
  refine (walk 0 us0 s0 a1 a2 W A0 (fits_st F0)).mono fun e W' ⟨he, bel⟩ => ?_
  subst he
  exact ⟨_, rfl, _, _, _, [], _, [], hW', trodAll_mk1 (shut_bool Try.underlying4 _), (trodAll_cons_mk (Below.trod laidOut (by kernel_rfl) (of_decide_eq_true (by kernel_rfl)) k0 bel lt0) (trodAll_cons_mk (shut_int Try.underlying3 w1) (trodAll_cons_mk (shut_int Try.underlying3 w2) trodAll_mk0))), rfl, bel.frame _, fun h => by cases h⟩

theorem over : Rows.cleanNeverRow.holds Try.pinned (OpenSpec.ofChange Rows.cleanNeverSpec) :=
  OpenClaim.holds_of_wide 4 Try.f4 rfl rfl rfl rfl rfl rfl rfl ⟨rfl, rfl, rfl, rfl, rfl⟩ rfl rfl rfl rfl rfl (by kernel_rfl) Try.func4 (by kernel_rfl)
    (of_decide_eq_true (by kernel_rfl)) (by unfold Func.isWrapper; first | (rw [if_pos (by decide +kernel)]; kernel_rfl) | (rw [if_neg (by decide +kernel)]; exact ⟨rfl, rfl⟩))
    (fun os started H enc _ => lifted os started H enc)

end Go.Proofs.Ytkpckadicjdieab.cleanNever

namespace Go.Proofs.Ytkpckadicjdieab
theorem cleanNever_holds : Rows.CleanNeverSaid := cleanNever.over
#print axioms cleanNever_holds
end Go.Proofs.Ytkpckadicjdieab
