/-
  SegmentOwn, proved: for every segment (as great as the form reads it): the call returns true, and changes nothing that was in memory. No condition of its own.
-/
import Derived.Test.YtmjgamokddedkaaAlive
import Derived.Test.YtmjgamokddedkaaAlikeL
import Derived.Test.YtmjgamokddedkaaOfL
import Derived.Test.YtmjgamokddedkaaSpoil
import Derived.Test.YtmjgamokddedkaaFrame
namespace Go.Proofs.Ytmjgamokddedkaa.segmentOwn
open Go.ChangeShapes Go.WideShapes Go.ChangeAt Go.RowKit
open O (nv oct)
set_option linter.unusedVariables false

set_option maxRecDepth 100000 in
set_option maxHeartbeats 8000000 in
theorem walk (n0 : Nat) (us : List Value) (s : Sg) (w : World) (h : sgR.lies n0 w us s) (hf : Fits s) :
    Calls Try.prog 7 #[.agg us.toArray] w fun e w' => e = .returned (.bool true) ∧ Below w.heap.size w w' := by
  obtain ⟨ra, rc, rfl, hRL, hRi, hRm⟩ := sg_viewR h
  obtain ⟨W, hW⟩ : ∃ W, W = w.alloc (.cells #[.int .i64 s.1, .slice ra s.2.length rc] 24) := ⟨_, rfl⟩
  have HB0 : Hid (Below w.heap.size w W) := by rw [hW]; exact (Below.refl _ _).alloc (Nat.le_refl _) _
  have HX0 : Hid (Box W w.heap.size 24 #[.int .i64 s.1, .slice ra s.2.length rc]) := by rw [hW]; exact Box.new _ _ _
  have HR : Hid (sgR.lies n0 w [.int .i64 s.1, .slice ra s.2.length rc] s ∧ Fits s) := ⟨h, hf⟩
  have HC := alive_any W
  obtain ⟨sn, hsn⟩ : ∃ z, z = s.2.length := ⟨_, rfl⟩
  obtain ⟨sq1, hsq1⟩ : ∃ z, z = s.1 := ⟨_, rfl⟩
  rw [← hsn, ← hsq1] at hW HX0 HR
  rw [← hsn, ← hsq1]
  clear h hf hRL hRi hRm hsn hsq1
  go_enter Try.func7, Try.ntmps7
  go_wp2_with fail
  rw [← hW]
  clear hW
  refine HC.mono ?_
  rintro e w1 ⟨rfl, hb1⟩
  have H1 : Hid (Below w.heap.size w w1) := below_any HB0.out hb1
  have HX1 : Hid (Box w1 w.heap.size 24 #[.int .i64 sq1, .slice ra sn rc]) := HX0.out.below hb1 HX0.out.lt
  clear hb1 HC HB0 HX0
  obtain ⟨g0, g1, -, -⟩ := HX1.out.two
  have HC := of_any _ _ _ w1 (sgR.below HR.out.1 H1.out) HR.out.2
  go_wp2_with fail
  refine HC.mono ?_
  rintro e w2 ⟨⟨us2, rfl, hO2⟩, hb2⟩
  have H2 : Hid (Below w.heap.size w w2 ∧ Below w1.heap.size w1 w2) := ⟨below_any H1.out hb2, hb2⟩
  have HX2 : Hid (Box w2 w.heap.size 24 #[.int .i64 sq1, .slice ra sn rc]) := HX1.out.below hb2 HX1.out.lt
  have HL2 : Hid (sgN.owns w1.heap.size w2 us2 s) := hO2
  clear hb2 hO2 HC g0 g1 HX1
  obtain ⟨a2, c2, rfl, hbk, -⟩ := sg_ownN HL2.out
  obtain ⟨m, hm⟩ : ∃ z, z = s.2.length := ⟨_, rfl⟩
  obtain ⟨q2, hq2⟩ : ∃ z, z = s.1 := ⟨_, rfl⟩
  have HM : Hid (m = s.2.length) := hm
  have hraw := Raw.of hbk
  rw [← hm, ← hq2] at HL2
  rw [← hm] at hbk hraw
  rw [← hm, ← hq2]
  clear hm hq2
  obtain ⟨W3, hW3⟩ : ∃ W3, W3 = w2.alloc (.cells #[.int .i64 q2, .slice a2 m c2] 28) := ⟨_, rfl⟩
  have hb3 : Below w2.heap.size w2 W3 := by rw [hW3]; exact (Below.refl _ w2).alloc (Nat.le_refl _) _
  have hB3 : Box W3 w2.heap.size 28 #[.int .i64 q2, .slice a2 m c2] := by rw [hW3]; exact Box.new w2 _ _
  have HB3 : Hid (Below w.heap.size w W3 ∧ Box W3 w.heap.size 24 #[.int .i64 sq1, .slice ra sn rc] ∧ Box W3 w2.heap.size 28 #[.int .i64 q2, .slice a2 m c2]) := ⟨below_any H2.out.1 hb3, HX2.out.below hb3 HX2.out.lt, hB3⟩
  have HRW : Hid (Raw w1.heap.size w2.heap.size W3 (.slice a2 m c2) m ∧ w.heap.size ≤ w1.heap.size ∧ w1.heap.size ≤ w2.heap.size ∧ w2.heap.size < W3.heap.size) := ⟨hraw.same (.of_below hb3), H1.out.size, H2.out.2.size, hB3.lt⟩
  have HC := seal_any _ _ s W3 (sgN.olies (sgN.obelow HL2.out hb3))
  obtain ⟨s0, s1, s2, s3⟩ := hB3.two
  rw [hW3] at s0 s1 s2 s3
  clear hbk hraw hb3 hB3 H1 H2 HX2 HL2
  go_wp2_with fail
  rw [← hW3]
  clear hW3 s0 s1 s2 s3
  refine HC.mono ?_
  rintro e w4 ⟨⟨vb, rfl, ho4⟩, hb4⟩
  have HB4 : Hid (Below w.heap.size w w4) := below_any HB3.out.1 hb4
  by_cases hc : Chk s
  case neg =>
    rw [cerr_bad hc]
    rw [seal_bad hc] at ho4
    have hll := ho4.arg.len
    clear ho4 hb4 HC HRW HB3 HM HR hc
    go_wp2_with (go_at_call 18; refine (num_any _ _).mono ?_; rintro e wn ⟨rfl, rfl⟩)
    go_ret
    exact ⟨rfl, HB4.out⟩
  rw [cerr_ok hc]
  rw [seal_ok hc] at ho4
  have HX : Hid (Own1 W3.heap.size w4 vb (sealO s) ∧ oE (sealO s) = 0 ∧ oS (sealO s) = s) := ⟨ho4, open_seal hc ho4.oct⟩
  have HSP : Hid (SP w w4 w1.heap.size w2.heap.size #[.int .i64 sq1, .slice ra sn rc] (.slice a2 m c2) m w4 ∧ Box w4 w2.heap.size 28 #[.int .i64 q2, .slice a2 m c2]) := by
    refine ⟨⟨fun _ _ _ => rfl, Nat.le_refl _, HB4.out, HB3.out.2.1.below hb4 HB3.out.2.1.lt, HRW.out.1.same (.of_below hb4)⟩, HB3.out.2.2.below hb4 HB3.out.2.2.lt⟩
  have hlm := run_len Try.underlying26 a2 m c2
  have hmm : m ≤ 8 := by rw [HM.out]; exact hc.2.1.2
  clear ho4 hb4 HC hc HB4 HB3
  go_wp2_with (go_at_call 18; refine (num_any _ _).mono ?_; rintro e wn ⟨rfl, rfl⟩)
  go_loopw [6] (fun i wr => ∃ j : Nat, j ≤ m ∧ i = .int .i64 j ∧ Hid (SP w w4 w1.heap.size w2.heap.size #[.int .i64 sq1, .slice ra sn rc] (.slice a2 m c2) m wr)) (fun i _ => m - (intOf i).toNat)
  case atStart => exact ⟨0, Nat.zero_le _, rfl, HSP.out.1⟩
  case round =>
    obtain ⟨j, hj, rfl, HK⟩ := hrel
    obtain ⟨p0, p1, p2, p3⟩ := (HK.out.keep HSP.out.2 (Nat.le_refl _)).two
    by_cases hlt : j < m
    · have hji : (j : Int) < (m : Int) := by omega
      obtain ⟨bb, oo, ta, tm, tc, hix, gx, hE8, hlt8⟩ := HK.out.raw.at j hlt
      have HS := spoil_eight _ _ _ wr hE8
      have HE8 : Hid (Eight w1.heap.size wr (.slice ta tm tc) tm ∧ ∀ g, (Value.slice ta tm tc).ownBlock = some g → g < w2.heap.size) := ⟨hE8, hlt8⟩
      clear hE8 hlt8
      go_wp2_with fail
      refine HS.mono ?_
      rintro e w6 ⟨rfl, hgr, hEE⟩
      have HK6 : Hid (SP w w4 w1.heap.size w2.heap.size #[.int .i64 sq1, .slice ra sn rc] (.slice a2 m c2) m w6) := HK.out.step HRW.out.2.1 HE8.out.1 HE8.out.2 hgr hEE
      clear hgr hEE HS gx hix p0 p1 p2 p3
      go_wp2
      go_roundw
      case rel => exact ⟨j + 1, by omega, by go_num, HK6⟩
      case measure => simp [intOf]; omega
    · obtain rfl : j = m := by omega
      have hN3 : w2.heap.size ≤ W3.heap.size := by have := HRW.out.2.2.2; omega
      have hOb : Own1 W3.heap.size wr vb (sealO s) := bytesS.osame HX.out.1 fun q hq hl => HK.out.same q (by omega) hl
      have HD := open_any _ _ (sealO s) wr hOb.arg
      rw [HX.out.2.1, HX.out.2.2] at HD
      have HOb : Hid (Own1 W3.heap.size wr vb (sealO s)) := hOb
      clear hOb
      go_wp2_with fail
      refine HD.mono ?_
      rintro e w6 ⟨⟨us6, rfl, ho6⟩, hb6⟩
      obtain ⟨a6, c6, rfl, -⟩ := sg_viewN ho6
      obtain ⟨n6, hn6⟩ : ∃ z, z = s.2.length := ⟨_, rfl⟩
      obtain ⟨q6, hq6⟩ : ∃ z, z = s.1 := ⟨_, rfl⟩
      rw [← hn6, ← hq6] at ho6
      rw [← hn6, ← hq6]
      clear hn6 hq6
      obtain ⟨W7, hW7⟩ : ∃ W7, W7 = w6.alloc (.cells #[.int .i64 q6, .slice a6 n6 c6] 28) := ⟨_, rfl⟩
      have hb7 : Below w6.heap.size w6 W7 := by rw [hW7]; exact (Below.refl _ w6).alloc (Nat.le_refl _) _
      have hB7 : Box W7 w6.heap.size 28 #[.int .i64 q6, .slice a6 n6 c6] := by rw [hW7]; exact Box.new w6 _ _
      have hb67 := below_any hb6 hb7
      have hO7 : Own1 W3.heap.size W7 vb (sealO s) := bytesS.obelow HOb.out hb67
      have hE7 : Eight W3.heap.size W7 vb (sealO s).length := ⟨sealO s, rfl, hO7.row⟩
      have hlt7 : ∀ g, vb.ownBlock = some g → g < wr.heap.size := fun g hg => (HOb.out.row.lt g hg).2
      have HS := spoil_eight _ _ _ W7 hE7
      have H7 : Hid (Below w.heap.size w W7 ∧ Box W7 w.heap.size 24 #[.int .i64 sq1, .slice ra sn rc] ∧ Box W7 w6.heap.size 28 #[.int .i64 q6, .slice a6 n6 c6] ∧ sgN.lies wr.heap.size W7 [.int .i64 q6, .slice a6 n6 c6] s ∧ Eight W3.heap.size W7 vb (sealO s).length ∧ w.heap.size < W3.heap.size ∧ wr.heap.size ≤ w6.heap.size) :=
        ⟨below_any HK.out.bel hb67, HK.out.box.below hb67 HK.out.box.lt, hB7, sgN.below ho6 hb7, hE7, by have := HRW.out.2.1; have := HRW.out.2.2.1; have := HRW.out.2.2.2; omega, hb6.size⟩
      have HLT7 : Hid (∀ g, vb.ownBlock = some g → g < wr.heap.size) := hlt7
      clear ho6 hb6 hb7 hB7 hb67 hE7 hO7 hlt7 HD p0 p1 p2 p3
      go_wp2_with fail
      rw [← hW7]
      clear hW7
      refine HS.mono ?_
      rintro e w8 ⟨rfl, hgr, _⟩
      have hs8 : Same wr.heap.size W7 w8 := fun q hq hl => hgr.block q hl fun e => by have := HLT7.out q e.symm; omega
      have hb8 : Below w.heap.size w w8 := H7.out.1.grown hgr H7.out.1.size (fun q hq => by have := (H7.out.2.2.2.2.1.lt q hq).1; have := H7.out.2.2.2.2.2.1; omega)
      have hP8 := H7.out.2.1.grown hgr (H7.out.2.2.2.2.1.box H7.out.2.1 (by decide))
      have hB8 := H7.out.2.2.1.grown hgr (H7.out.2.2.2.2.1.box H7.out.2.2.1 (by decide))
      have HSR := alike_any _ _ _ _ s s w8 (sgN.keep H7.out.2.2.2.1 hs8) (sgR.below HR.out.1 hb8)
      rw [if_pos rfl] at HSR
      have HB8 : Hid (Below w.heap.size w w8) := hb8
      obtain ⟨t0, t1, t2, t3⟩ := hP8.two
      obtain ⟨v0, v1, v2, v3⟩ := hB8.two
      clear hgr hs8 hb8 hP8 hB8 HS
      go_wp2_with (go_at_call 18; refine (num_any _ _).mono ?_; rintro e wn ⟨rfl, rfl⟩)
      refine HSR.mono ?_
      rintro e w9 ⟨rfl, hb9⟩
      have HB9 : Hid (Below w.heap.size w w9) := below_any HB8.out hb9
      clear hb9 HSR t0 t1 t2 t3 v0 v1 v2 v3
      go_wp2
      go_ret
      exact ⟨rfl, HB9.out⟩

set_option maxRecDepth 100000 in
theorem lifted (os : Os) (started : os.Started) (H : Type) (enc : TypeId × Value → H) :
    ReturnsInHanded {} Try.checked os 7 .any (Rows.segmentOwnSpec.pre6 enc Try.prog Try.f7 Rows.segmentOwnRow.domain false) (Rows.segmentOwnSpec.post enc Try.prog Try.f7 false true false false) := by
  refine returnsInHanded_of_change_sized (C := Try.checked) own started (by kernel_rfl) Try.func7
    (ChangeSpec.witness6 (enc := enc) (C := Try.checked) false ⟨#[], #[.agg #[.int .i64 0, .slice none 0 0]], []⟩ 8 (by kernel_rfl) (by kernel_rfl) (by kernel_rfl) (by kernel_rfl)) ?_
  intro W base args ds gs before hval0 hW hcnd hsz0 _
  have hval : ∀ (j : Nat) t v, Try.f7.params[j]? = some t → args[j]? = some v → Value.okWide Try.prog W .any base t v := hval0
  have hW' := hW
  obtain ⟨p, q, hA0, hV, rfl, hfz, hnd⟩ := hW
  have hA : DataW.TrodAll enc Try.prog W 0 (fun _ => true) true Try.f7.params.toList args.toList ds p := hA0
  have hsz : (DataW.weightsEach Try.prog (Try.f7.params.toList ++ Rows.segmentOwnSpec.plain.varTypes Try.prog) (ds ++ gs)).all (· ≤ reachBytes) = true := hsz0
  clear hsz0
  rw [Try.params7] at hA hval hsz
  obtain ⟨v0, vs0, d0, ds0, p0, q0, hargs, rfl, rfl, h0, r0⟩ := trodAll_cons hA
  obtain ⟨rfl, rfl, rfl⟩ := trodAll_nil r0
  obtain rfl : args = #[v0] := by cases args; simp_all
  obtain ⟨rfl, rfl⟩ := trodVars_none hV
  obtain ⟨cs0, rfl, hc0⟩ := okWide_struct Try.underlying24 (hval 0 24 v0 rfl rfl)
  obtain ⟨us0, rfl⟩ := as_list cs0
  have k0 := h0
  have lt0 : ∀ x ∈ p0, x.block < W.heap.size := by obtain ⟨m, hm⟩ := k0; exact DataW.trod_lt m _ _ _ hm
  obtain ⟨m0, hm0⟩ := h0
  obtain ⟨s0, A0, F0'⟩ := sgR.reads hm0
  have F0 := F0' fun n hn => by have := List.all_eq_true.1 hsz _ (DataW.weights_mem_each (j := 0) rfl rfl n hn); simpa using this
  clear hA0 hval0
  refine (walk 0 us0 s0 W A0 (fits_of F0)).mono fun e W' ⟨he, bel⟩ => ?_
  subst he
  exact ⟨_, rfl, _, _, _, [], _, [], hW', trodAll_mk1 (shut_bool Try.underlying4 _), (trodAll_cons_mk (Below.trod laidOut (by kernel_rfl) (of_decide_eq_true (by kernel_rfl)) k0 bel lt0) trodAll_mk0), rfl, bel.frame _, fun h => by cases h⟩

theorem over : Rows.segmentOwnRow.holds Try.pinned (OpenSpec.ofChange Rows.segmentOwnSpec) :=
  OpenClaim.holds_of_wide 7 Try.f7 rfl rfl rfl rfl rfl rfl rfl ⟨rfl, rfl, rfl, rfl, rfl⟩ rfl rfl rfl rfl rfl (by kernel_rfl) Try.func7 (by kernel_rfl)
    (of_decide_eq_true (by kernel_rfl)) (by unfold Func.isWrapper; first | (rw [if_pos (by decide +kernel)]; kernel_rfl) | (rw [if_neg (by decide +kernel)]; exact ⟨rfl, rfl⟩))
    (fun os started H enc _ => lifted os started H enc)

end Go.Proofs.Ytmjgamokddedkaa.segmentOwn

namespace Go.Proofs.Ytmjgamokddedkaa
theorem segmentOwn_holds : Rows.SegmentOwnSaid := segmentOwn.over
#print axioms segmentOwn_holds
end Go.Proofs.Ytmjgamokddedkaa
