/-
  SegmentBack, proved: for every segment and all octets (as great as the form reads them): the call returns true, and changes nothing that was in memory. No condition of its own.
-/
import Derived.Test.YtmjgamokddedkaaAlive
import Derived.Test.YtmjgamokddedkaaAlikeL
import Derived.Test.YtmjgamokddedkaaOfL
import Derived.Test.YtmjgamokddedkaaFrame
namespace Go.Proofs.Ytmjgamokddedkaa.segmentBack
open Go.ChangeShapes Go.WideShapes Go.ChangeAt Go.RowKit
open O (nv oct)
set_option linter.unusedVariables false

set_option maxRecDepth 100000 in
set_option maxHeartbeats 8000000 in
theorem walk (n0 n1 : Nat) (us : List Value) (s : Sg) (v : Value) (b : List Int) (w : World) (h : sgR.lies n0 w us s) (hf : Fits s) (hv : Arg n1 w v b) :
    Calls Try.prog 4 #[.agg us.toArray, v] w fun e w' => e = .returned (.bool true) ∧ Below w.heap.size w w' := by
  have HV : Hid (Arg n1 w v b) := hv
  clear hv
  obtain ⟨ra, rc, rfl, hRL, hRi, hRm⟩ := sg_viewR h
  obtain ⟨W, hW⟩ : ∃ W, W = w.alloc (.cells #[.int .i64 s.1, .slice ra s.2.length rc] 24) := ⟨_, rfl⟩
  have HB0 : Hid (Below w.heap.size w W) := by rw [hW]; exact (Below.refl _ _).alloc (Nat.le_refl _) _
  have HX0 : Hid (Box W w.heap.size 24 #[.int .i64 s.1, .slice ra s.2.length rc]) := by rw [hW]; exact Box.new _ _ _
  have HR : Hid (sgR.lies n0 w [.int .i64 s.1, .slice ra s.2.length rc] s ∧ Fits s) := ⟨h, hf⟩
  have HC := alive_any W
  obtain ⟨sn, hsn⟩ : ∃ z, z = s.2.length := ⟨_, rfl⟩
  obtain ⟨sq1, hsq1⟩ : ∃ z, z = s.1 := ⟨_, rfl⟩
  rw [← hsn, ← hsq1] at hW HX0 HR
  rw [← hsn, ← hsq1]
  clear h hf hRL hRi hRm hsn hsq1
  go_enter Try.func4, Try.ntmps4
  go_wp2_with fail
  rw [← hW]
  clear hW
  refine HC.mono ?_
  rintro e w1 ⟨rfl, hb1⟩
  have H1 : Hid (Below w.heap.size w w1) := below_any HB0.out hb1
  have HX1 : Hid (Box w1 w.heap.size 24 #[.int .i64 sq1, .slice ra sn rc]) := HX0.out.below hb1 HX0.out.lt
  clear hb1 HC HB0 HX0
  obtain ⟨g0, g1, -, -⟩ := HX1.out.two
  have HC := of_any _ _ _ w1 (sgR.below HR.out.1 H1.out) HR.out.2
  go_wp2_with fail
  refine HC.mono ?_
  rintro e w2 ⟨⟨us2, rfl, hO2⟩, hb2⟩
  have H2 : Hid (Below w.heap.size w w2 ∧ Below w1.heap.size w1 w2) := ⟨below_any H1.out hb2, hb2⟩
  have HX2 : Hid (Box w2 w.heap.size 24 #[.int .i64 sq1, .slice ra sn rc]) := HX1.out.below hb2 HX1.out.lt
  have HL2 : Hid (sgN.owns w1.heap.size w2 us2 s) := hO2
  clear hb2 hO2 HC g0 g1 HX1
  have HC := seal_any _ us2 s w2 (sgN.olies HL2.out)
  go_wp2_with fail
  refine HC.mono ?_
  rintro e w3 ⟨⟨vb, rfl, hO3⟩, hb3⟩
  have H3 : Hid (Below w.heap.size w w3 ∧ Below w2.heap.size w2 w3) := ⟨below_any H2.out.1 hb3, hb3⟩
  have HX3 : Hid (Box w3 w.heap.size 24 #[.int .i64 sq1, .slice ra sn rc]) := HX2.out.below hb3 HX2.out.lt
  have HO3 : Hid (Own1 w2.heap.size w3 vb (sealV s)) := hO3
  clear hb3 hO3 HC HX2
  by_cases hc : Chk s
  case neg =>
    rw [cerr_bad hc]
    have HT : Hid (Below w.heap.size w w3) := H3.out.1
    clear H1 H2 HL2 H3 HX3 HO3 HR hc
    have HC := open_any n1 v b w3 (HV.out.below HT.out)
    go_wp2_with (go_at_call 18; refine (num_any _ _).mono ?_; rintro e wn ⟨rfl, rfl⟩)
    refine HC.mono ?_
    rintro e w6 ⟨⟨us6, rfl, hS6⟩, hb6⟩
    have H6 : Hid (Below w.heap.size w w6) := below_any HT.out hb6
    obtain ⟨a6, c6, rfl, -⟩ := sg_viewN hS6
    have HS6 : Hid (sgN.lies w3.heap.size w6 [.int .i64 (oS b).1, .slice a6 (oS b).2.length c6] (oS b)) := hS6
    clear hb6 hS6 HC HT
    obtain ⟨q6, hq6⟩ : ∃ z, z = (oS b).1 := ⟨_, rfl⟩
    obtain ⟨n6, hn6⟩ : ∃ z, z = (oS b).2.length := ⟨_, rfl⟩
    obtain ⟨e6, he6⟩ : ∃ z, z = oE b := ⟨_, rfl⟩
    rw [← hq6, ← hn6] at HS6
    rw [← hq6, ← hn6, ← he6]
    obtain ⟨Y, hY⟩ : ∃ Y, Y = w6.alloc (.cells #[.int .i64 q6, .slice a6 n6 c6] 28) := ⟨_, rfl⟩
    have hbY : Below w6.heap.size w6 Y := by rw [hY]; exact (Below.refl _ _).alloc (Nat.le_refl _) _
    have HY : Hid (Below w.heap.size w Y ∧ Box Y w6.heap.size 28 #[.int .i64 q6, .slice a6 n6 c6] ∧ sgN.lies w3.heap.size Y [.int .i64 q6, .slice a6 n6 c6] (oS b)) := ⟨below_any H6.out hbY, by rw [hY]; exact Box.new _ _ _, sgN.below HS6.out hbY⟩
    clear hbY H6 HS6
    obtain ⟨g0, g1, f0, f1⟩ := HY.out.2.1.two
    by_cases h0 : e6 = 0
    case neg =>
      have h0b : (e6 == 0) = false := by simpa using h0
      have hz := oS_no he6.symm h0
      rw [hz] at hq6 hn6
      replace hq6 : q6 = 0 := hq6
      replace hn6 : n6 = 0 := hn6
      subst hq6
      subst hn6
      have HE : Hid (Below w.heap.size w Y) := HY.out.1
      rw [hY] at g0 g1 f0 f1 HE
      clear HY hY hz h0 he6
      go_wp2_with (go_at_call 18; refine (num_any _ _).mono ?_; rintro e wn ⟨rfl, rfl⟩)
      go_ret
      exact ⟨rfl, HE.out⟩
    subst h0
    have hk := seal_open HV.out.oct he6.symm
    have HC := seal_any _ _ (oS b) Y HY.out.2.2
    rw [cerr_ok hk.1, seal_ok hk.1, hk.2] at HC
    clear hk hq6 hn6 he6
    rw [hY] at g0 g1 f0 f1
    go_wp2_with (go_at_call 18; refine (num_any _ _).mono ?_; rintro e wn ⟨rfl, rfl⟩)
    rw [← hY]
    clear hY
    refine HC.mono ?_
    rintro e w7 ⟨⟨vz, rfl, hO7⟩, hb7⟩
    have H7 : Hid (Below w.heap.size w w7) := below_any HY.out.1 hb7
    have HC := same_any _ _ vz v b b w7 hO7.arg (HV.out.below H7.out)
    rw [decide_eq_true rfl] at HC
    clear hb7 hO7 g0 g1 f0 f1 HY
    go_wp2_with (go_at_call 18; refine (num_any _ _).mono ?_; rintro e wn ⟨rfl, rfl⟩)
    refine HC.mono ?_
    rintro e w8 ⟨rfl, nq, rfl⟩
    have H8 : Hid (Below w.heap.size w (w7.drewN nq)) := below_drewN H7.out _
    go_wp2
    go_ret
    exact ⟨rfl, H8.out⟩
  rw [cerr_ok hc]
  rw [seal_ok hc] at HO3
  have hA := HO3.out.arg.weaken (Nat.zero_le _)
  have hE := open_seal hc hA.oct
  have HC := open_any 0 vb (sealO s) w3 hA
  rw [hE.1, hE.2] at HC
  clear hA hE
  go_wp2_with (go_at_call 18; refine (num_any _ _).mono ?_; rintro e wn ⟨rfl, rfl⟩)
  refine HC.mono ?_
  rintro e w4 ⟨⟨us4, rfl, hS4⟩, hb4⟩
  obtain ⟨a4, c4, rfl, -⟩ := sg_viewN hS4
  have H4 : Hid (Below w.heap.size w w4) := below_any H3.out.1 hb4
  have HX4 : Hid (Box w4 w.heap.size 24 #[.int .i64 sq1, .slice ra sn rc]) := HX3.out.below hb4 HX3.out.lt
  have HS4 : Hid (sgN.lies w3.heap.size w4 [.int .i64 s.1, .slice a4 s.2.length c4] s) := hS4
  clear hb4 hS4 HC H1 H2 HL2 H3 HX3 HO3 hc
  obtain ⟨q4, hq4⟩ : ∃ z, z = s.1 := ⟨_, rfl⟩
  obtain ⟨n4, hn4⟩ : ∃ z, z = s.2.length := ⟨_, rfl⟩
  rw [← hq4, ← hn4] at HS4
  rw [← hq4, ← hn4]
  clear hq4 hn4
  obtain ⟨V, hVV⟩ : ∃ Y, Y = w4.alloc (.cells #[.int .i64 q4, .slice a4 n4 c4] 28) := ⟨_, rfl⟩
  have hbV : Below w4.heap.size w4 V := by rw [hVV]; exact (Below.refl _ _).alloc (Nat.le_refl _) _
  have HVV : Hid (Below w.heap.size w V ∧ Box V w4.heap.size 28 #[.int .i64 q4, .slice a4 n4 c4] ∧ sgN.lies w3.heap.size V [.int .i64 q4, .slice a4 n4 c4] s ∧ Box V w.heap.size 24 #[.int .i64 sq1, .slice ra sn rc]) := ⟨below_any H4.out hbV, by rw [hVV]; exact Box.new _ _ _, sgN.below HS4.out hbV, HX4.out.below hbV HX4.out.lt⟩
  clear hbV H4 HX4 HS4
  obtain ⟨g0, g1, f0, f1⟩ := HVV.out.2.1.two
  obtain ⟨g2, g3, f2, f3⟩ := HVV.out.2.2.2.two
  have HC := alike_any _ _ _ _ s s V HVV.out.2.2.1 (sgR.below HR.out.1 HVV.out.1)
  rw [if_pos rfl] at HC
  rw [hVV] at g0 g1 f0 f1 g2 g3 f2 f3
  go_wp2_with (go_at_call 18; refine (num_any _ _).mono ?_; rintro e wn ⟨rfl, rfl⟩)
  rw [← hVV]
  clear hVV
  refine HC.mono ?_
  rintro e w5 ⟨rfl, hb5⟩
  have HT : Hid (Below w.heap.size w w5) := below_any HVV.out.1 hb5
  clear hb5 HC HVV g0 g1 f0 f1 g2 g3 f2 f3 HR
  have HC := open_any n1 v b w5 (HV.out.below HT.out)
  go_wp2_with (go_at_call 18; refine (num_any _ _).mono ?_; rintro e wn ⟨rfl, rfl⟩)
  refine HC.mono ?_
  rintro e w6 ⟨⟨us6, rfl, hS6⟩, hb6⟩
  have H6 : Hid (Below w.heap.size w w6) := below_any HT.out hb6
  obtain ⟨a6, c6, rfl, -⟩ := sg_viewN hS6
  have HS6 : Hid (sgN.lies w5.heap.size w6 [.int .i64 (oS b).1, .slice a6 (oS b).2.length c6] (oS b)) := hS6
  clear hb6 hS6 HC HT
  obtain ⟨q6, hq6⟩ : ∃ z, z = (oS b).1 := ⟨_, rfl⟩
  obtain ⟨n6, hn6⟩ : ∃ z, z = (oS b).2.length := ⟨_, rfl⟩
  obtain ⟨e6, he6⟩ : ∃ z, z = oE b := ⟨_, rfl⟩
  rw [← hq6, ← hn6] at HS6
  rw [← hq6, ← hn6, ← he6]
  obtain ⟨Y, hY⟩ : ∃ Y, Y = w6.alloc (.cells #[.int .i64 q6, .slice a6 n6 c6] 28) := ⟨_, rfl⟩
  have hbY : Below w6.heap.size w6 Y := by rw [hY]; exact (Below.refl _ _).alloc (Nat.le_refl _) _
  have HY : Hid (Below w.heap.size w Y ∧ Box Y w6.heap.size 28 #[.int .i64 q6, .slice a6 n6 c6] ∧ sgN.lies w5.heap.size Y [.int .i64 q6, .slice a6 n6 c6] (oS b)) := ⟨below_any H6.out hbY, by rw [hY]; exact Box.new _ _ _, sgN.below HS6.out hbY⟩
  clear hbY H6 HS6
  obtain ⟨g0, g1, f0, f1⟩ := HY.out.2.1.two
  by_cases h0 : e6 = 0
  case neg =>
    have h0b : (e6 == 0) = false := by simpa using h0
    have hz := oS_no he6.symm h0
    rw [hz] at hq6 hn6
    replace hq6 : q6 = 0 := hq6
    replace hn6 : n6 = 0 := hn6
    subst hq6
    subst hn6
    have HE : Hid (Below w.heap.size w Y) := HY.out.1
    rw [hY] at g0 g1 f0 f1 HE
    clear HY hY hz h0 he6
    go_wp2_with (go_at_call 18; refine (num_any _ _).mono ?_; rintro e wn ⟨rfl, rfl⟩)
    go_ret
    exact ⟨rfl, HE.out⟩
  subst h0
  have hk := seal_open HV.out.oct he6.symm
  have HC := seal_any _ _ (oS b) Y HY.out.2.2
  rw [cerr_ok hk.1, seal_ok hk.1, hk.2] at HC
  clear hk hq6 hn6 he6
  rw [hY] at g0 g1 f0 f1
  go_wp2_with (go_at_call 18; refine (num_any _ _).mono ?_; rintro e wn ⟨rfl, rfl⟩)
  rw [← hY]
  clear hY
  refine HC.mono ?_
  rintro e w7 ⟨⟨vz, rfl, hO7⟩, hb7⟩
  have H7 : Hid (Below w.heap.size w w7) := below_any HY.out.1 hb7
  have HC := same_any _ _ vz v b b w7 hO7.arg (HV.out.below H7.out)
  rw [decide_eq_true rfl] at HC
  clear hb7 hO7 g0 g1 f0 f1 HY
  go_wp2_with (go_at_call 18; refine (num_any _ _).mono ?_; rintro e wn ⟨rfl, rfl⟩)
  refine HC.mono ?_
  rintro e w8 ⟨rfl, nq, rfl⟩
  have H8 : Hid (Below w.heap.size w (w7.drewN nq)) := below_drewN H7.out _
  go_wp2
  go_ret
  exact ⟨rfl, H8.out⟩

set_option maxRecDepth 100000 in
theorem lifted (os : Os) (started : os.Started) (H : Type) (enc : TypeId × Value → H) :
    ReturnsInHanded {} Try.checked os 4 .any (Rows.segmentBackSpec.pre6 enc Try.prog Try.f4 Rows.segmentBackRow.domain false) (Rows.segmentBackSpec.post enc Try.prog Try.f4 false true false false) := by
  refine returnsInHanded_of_change_sized (C := Try.checked) own started (by kernel_rfl) Try.func4
    (ChangeSpec.witness6 (enc := enc) (C := Try.checked) false ⟨#[], #[.agg #[.int .i64 0, .slice none 0 0], .slice none 0 0], []⟩ 8 (by kernel_rfl) (by kernel_rfl) (by kernel_rfl) (by kernel_rfl)) ?_
  intro W base args ds gs before hval0 hW hcnd hsz0 _
  have hval : ∀ (j : Nat) t v, Try.f4.params[j]? = some t → args[j]? = some v → Value.okWide Try.prog W .any base t v := hval0
  have hW' := hW
  obtain ⟨p, q, hA0, hV, rfl, hfz, hnd⟩ := hW
  have hA : DataW.TrodAll enc Try.prog W 0 (fun _ => true) true Try.f4.params.toList args.toList ds p := hA0
  have hsz : (DataW.weightsEach Try.prog (Try.f4.params.toList ++ Rows.segmentBackSpec.plain.varTypes Try.prog) (ds ++ gs)).all (· ≤ reachBytes) = true := hsz0
  clear hsz0
  rw [Try.params4] at hA hval hsz
  obtain ⟨v0, vs0, d0, ds0, p0, q0, hargs, rfl, rfl, h0, r0⟩ := trodAll_cons hA
  obtain ⟨v1, vs1, d1, ds1, p1, q1, rfl, rfl, rfl, h1, r1⟩ := trodAll_cons r0
  obtain ⟨rfl, rfl, rfl⟩ := trodAll_nil r1
  obtain rfl : args = #[v0, v1] := by cases args; simp_all
  obtain ⟨rfl, rfl⟩ := trodVars_none hV
  obtain ⟨cs0, rfl, hc0⟩ := okWide_struct Try.underlying24 (hval 0 24 v0 rfl rfl)
  obtain ⟨us0, rfl⟩ := as_list cs0
  have k0 := h0
  have lt0 : ∀ x ∈ p0, x.block < W.heap.size := by obtain ⟨m, hm⟩ := k0; exact DataW.trod_lt m _ _ _ hm
  obtain ⟨m0, hm0⟩ := h0
  obtain ⟨s0, A0, F0'⟩ := sgR.reads hm0
  have F0 := F0' fun n hn => by have := List.all_eq_true.1 hsz _ (DataW.weights_mem_each (j := 0) rfl rfl n hn); simpa using this
  obtain ⟨x1, len1, cap1, rfl⟩ := okWide_slice Try.underlying25 (hval 1 25 v1 rfl rfl)
  have k1 := h1
  have lt1 : ∀ x ∈ p1, x.block < W.heap.size := by obtain ⟨m, hm⟩ := k1; exact DataW.trod_lt m _ _ _ hm
  obtain ⟨m1, hm1⟩ := h1
  obtain ⟨s1, A1, F1'⟩ := bytesS.reads hm1
  have F1 := F1' fun n hn => by have := List.all_eq_true.1 hsz _ (DataW.weights_mem_each (j := 1) rfl rfl n hn); simpa using this
  clear hA0 hval0
  refine (walk 0 0 us0 s0 _ s1 W A0 (fits_of F0) A1).mono fun e W' ⟨he, bel⟩ => ?_
  subst he
  exact ⟨_, rfl, _, _, _, [], _, [], hW', trodAll_mk1 (shut_bool Try.underlying4 _), (trodAll_cons_mk (Below.trod laidOut (by kernel_rfl) (of_decide_eq_true (by kernel_rfl)) k0 bel lt0) (trodAll_cons_mk (Below.trod laidOut (by kernel_rfl) (of_decide_eq_true (by kernel_rfl)) k1 bel lt1) trodAll_mk0)), rfl, bel.frame _, fun h => by cases h⟩

theorem over : Rows.segmentBackRow.holds Try.pinned (OpenSpec.ofChange Rows.segmentBackSpec) :=
  OpenClaim.holds_of_wide 4 Try.f4 rfl rfl rfl rfl rfl rfl rfl ⟨rfl, rfl, rfl, rfl, rfl⟩ rfl rfl rfl rfl rfl (by kernel_rfl) Try.func4 (by kernel_rfl)
    (of_decide_eq_true (by kernel_rfl)) (by unfold Func.isWrapper; first | (rw [if_pos (by decide +kernel)]; kernel_rfl) | (rw [if_neg (by decide +kernel)]; exact ⟨rfl, rfl⟩))
    (fun os started H enc _ => lifted os started H enc)

end Go.Proofs.Ytmjgamokddedkaa.segmentBack

namespace Go.Proofs.Ytmjgamokddedkaa
theorem segmentBack_holds : Rows.SegmentBackSaid := segmentBack.over
#print axioms segmentBack_holds
end Go.Proofs.Ytmjgamokddedkaa
