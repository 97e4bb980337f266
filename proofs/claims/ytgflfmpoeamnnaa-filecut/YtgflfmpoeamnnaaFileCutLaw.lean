/-
  FileCut: for every file and every two numbers the law answers true: what is cut off comes back as zeros. No condition.
-/
import Derived.Test.YtgflfmpoeamnnaaLawMath
namespace Go.Proofs.Ytgflfmpoeamnnaa.fileCut
open Go.ChangeShapes Go.WideShapes Go.ChangeAt Go.RowKit

set_option maxRecDepth 100000 in
set_option maxHeartbeats 2000000 in
theorem walk (us : List Value) (f : Fl) (lo hi : Int) (w : World) (h : flR.lies 0 w us f) (hf : Fits f) : Calls Try.prog 6 #[.agg us.toArray, .int .i64 lo, .int .i64 hi] w fun e w' => e = .returned (.bool true) ∧ Below w.heap.size w w' := by
  obtain ⟨a, c, rfl, _, _, _⟩ := fl_viewR h
  obtain ⟨W, hW⟩ : ∃ W, W = w.alloc (.cells #[.int .i64 f.1, .slice a f.2.length c] 24) := ⟨_, rfl⟩
  have hb : Below w.heap.size w W := by rw [hW]; exact (Below.refl _ w).alloc (Nat.le_refl _) _
  have hB : Box W w.heap.size 24 #[.int .i64 f.1, .slice a f.2.length c] := by rw [hW]; exact Box.new _ _ _
  have HB : Hid (Below w.heap.size w W ∧ Box W w.heap.size 24 #[.int .i64 f.1, .slice a f.2.length c] ∧ flR.lies 0 W [.int .i64 f.1, .slice a f.2.length c] f ∧ Fits f) := ⟨hb, hB, flR.below h hb, hf⟩
  have HA := alive_any W
  obtain ⟨s, hs⟩ : ∃ s, s = f.1 := ⟨_, rfl⟩
  obtain ⟨n, hn⟩ : ∃ n, n = f.2.length := ⟨_, rfl⟩
  rw [← hs, ← hn] at hW HB ⊢
  clear h hf hb hB hs hn
  go_enter Try.func6, Try.ntmps6
  go_wp2_with fail
  rw [← hW]
  clear hW
  refine HA.mono ?_
  rintro e w1 ⟨rfl, hb1⟩
  have HB1 : Hid (Below w.heap.size w w1 ∧ Box w1 w.heap.size 24 #[.int .i64 s, .slice a n c] ∧ flR.lies 0 w1 [.int .i64 s, .slice a n c] f ∧ Fits f) := ⟨below_any HB.out.1 hb1, HB.out.2.1.below hb1 HB.out.2.1.lt, flR.below HB.out.2.2.1 hb1, HB.out.2.2.2⟩
  obtain ⟨g0, g1, _, _⟩ := HB1.out.2.1.two
  clear hb1 HA
  go_wp2_with fail
  obtain ⟨L, hL, eL⟩ := mod2433 lo
  obtain ⟨H, hH, eH⟩ := mod2433 hi
  obtain ⟨A, hA⟩ : ∃ A, A = min L H := ⟨_, rfl⟩
  obtain ⟨B, hB⟩ : ∃ B, B = max L H := ⟨_, rfl⟩
  rw [eL, eH, show min (L : Int) (H : Int) = (A : Int) by omega, show max (L : Int) (H : Int) = (B : Int) by omega]
  have hAB : A ≤ B ∧ B ≤ 2432 := by omega
  have HAB : Hid (A ≤ B ∧ B ≤ 2432) := hAB
  clear hL hH hA hB eL eH
  refine (made_of 0 _ f w1 HB1.out.2.2.1 HB1.out.2.2.2).mono ?_
  rintro e w2 ⟨⟨u2, rfl, hu2⟩, hb2⟩
  have hl2 := flN.olies hu2
  have HT1 := trunc_any _ u2 f (A : Int) w2 hl2 (by unfold I64; omega)
  have HB2 : Hid (Below w.heap.size w w2 ∧ Box w2 w.heap.size 24 #[.int .i64 s, .slice a n c] ∧ flR.lies 0 w2 [.int .i64 s, .slice a n c] f) := ⟨below_any HB1.out.1 hb2, HB1.out.2.1.below hb2 HB1.out.2.1.lt, flR.below HB1.out.2.2.1 hb2⟩
  obtain ⟨s2, a2, l2, c2, rfl, hx1, hx2⟩ := var_new hl2
  clear hx1 hx2
  clear hu2 hl2 hb2 g0 g1
  go_wp2_with fail
  refine HT1.mono ?_
  rintro e w3 ⟨⟨u3, rfl, hu3⟩, hb3⟩
  obtain ⟨F1, hF1⟩ : ∃ F, F = trF f (A : Int) := ⟨_, rfl⟩
  obtain ⟨E1, hE1⟩ : ∃ E, E = trE f (A : Int) := ⟨_, rfl⟩
  rw [← hF1] at hu3
  rw [← hE1]
  have HF1 : Hid (F1 = trF f (A : Int) ∧ E1 = trE f (A : Int)) := ⟨hF1, hE1⟩
  clear hF1 hE1
  obtain ⟨s3, a3, l3, c3, rfl, hu3, hx⟩ := var_new hu3
  clear hx
  obtain ⟨W3, hW3⟩ : ∃ W3, W3 = w3.alloc (.cells #[.int .i64 s3, .slice a3 l3 c3] 28) := ⟨_, rfl⟩
  have hbW3 : Below w3.heap.size w3 W3 := by rw [hW3]; exact (Below.refl _ _).alloc (Nat.le_refl _) _
  have HT2 := trunc_any _ _ F1 (B : Int) W3 (flN.below hu3 hbW3) (by unfold I64; omega)
  have HB3 : Hid (Below w.heap.size w W3 ∧ Box W3 w.heap.size 24 #[.int .i64 s, .slice a n c] ∧ flR.lies 0 W3 [.int .i64 s, .slice a n c] f) := by
    have hbb := below_any hb3 hbW3
    exact ⟨below_any HB2.out.1 hbb, HB2.out.2.1.below hbb HB2.out.2.1.lt, flR.below HB2.out.2.2 hbb⟩
  clear HT1 hu3 hb3 hbW3
  go_wp2_with fail
  rw [← hW3]
  clear hW3
  refine HT2.mono ?_
  rintro e w4 ⟨⟨u4, rfl, hu4⟩, hb4⟩
  obtain ⟨F2, hF2⟩ : ∃ F, F = trF F1 (B : Int) := ⟨_, rfl⟩
  obtain ⟨E2, hE2⟩ : ∃ E, E = trE F1 (B : Int) := ⟨_, rfl⟩
  rw [← hF2] at hu4
  rw [← hE2]
  have HF2 : Hid (F2 = trF F1 (B : Int) ∧ E2 = trE F1 (B : Int)) := ⟨hF2, hE2⟩
  clear hF2 hE2
  obtain ⟨s4, a4, l4, c4, rfl, hu4, hx⟩ := var_new hu4
  clear hx
  obtain ⟨W4, hW4⟩ : ∃ W4, W4 = w4.alloc (.cells #[.int .i64 s4, .slice a4 l4 c4] 28) := ⟨_, rfl⟩
  have hbW4 : Below w4.heap.size w4 W4 := by rw [hW4]; exact (Below.refl _ _).alloc (Nat.le_refl _) _
  have HB4 : Hid (Below w.heap.size w W4 ∧ Box W4 w.heap.size 24 #[.int .i64 s, .slice a n c] ∧ flR.lies 0 W4 [.int .i64 s, .slice a n c] f ∧ Box W4 w4.heap.size 28 #[.int .i64 s4, .slice a4 l4 c4] ∧ flN.lies W3.heap.size W4 [.int .i64 s4, .slice a4 l4 c4] F2) := by
    have hbb := below_any hb4 hbW4
    exact ⟨below_any HB3.out.1 hbb, HB3.out.2.1.below hbb HB3.out.2.1.lt, flR.below HB3.out.2.2 hbb, by rw [hW4]; exact Box.new _ _ _, flN.below hu4 hbW4⟩
  obtain ⟨g0, g1, _, _⟩ := HB4.out.2.1.two
  obtain ⟨k0, k1, _, _⟩ := HB4.out.2.2.2.1.two
  have HN := num_any
  clear HT2 hu4 hb4 hbW4
  cases hck : chk f
  case false =>
    have hE : E1 = 9 := by rw [HF1.out.2]; exact trE_bad hck _
    subst hE
    have HK := rcheck_any 0 _ f W4 HB4.out.2.2.1
    rw [show cerr f = 9 by unfold cerr; rw [hck]; rfl] at HK
    rw [hW4] at g0 g1
    clear k0 k1 hck
    go_wp2_with (go_at_call 19; refine (HN _ _).mono ?_; rintro e w5 ⟨rfl, rfl⟩)
    rw [← hW4]
    clear hW4
    refine HK.mono ?_
    rintro e w5 ⟨rfl, hb5⟩
    clear HN
    go_wp2
    go_ret
    exact ⟨rfl, below_any HB4.out.1 hb5⟩
  case true =>
    obtain ⟨z1, z2, z3, z4⟩ := cut_back hck HAB.out.1 HAB.out.2
    rw [← HF1.out.1] at z2 z3 z4
    rw [← HF2.out.1] at z3 z4
    have hE : E1 = 0 := by rw [HF1.out.2]; exact z1
    subst hE
    have hE : E2 = 0 := by rw [HF2.out.2]; exact z2
    subst hE
    have HR := read_any _ _ F2 (A : Int) 5000 W4 HB4.out.2.2.2.2 (by unfold I64; omega) (by unfold I64; omega)
    rw [z3, z4] at HR
    obtain ⟨D, hD⟩ : ∃ D, D = B - A := ⟨_, rfl⟩
    rw [← hD] at HR
    have hDI : (B : Int) - (A : Int) = (D : Int) := by omega
    have hDb : D ≤ 2432 := by omega
    rw [hW4] at k0 k1
    clear g0 g1 z1 z2 z3 z4 hck
    go_wp2_with (go_at_call 19; refine (HN _ _).mono ?_; rintro e w5 ⟨rfl, rfl⟩)
    rw [← hW4]
    clear hW4
    refine HR.mono ?_
    rintro e w5 ⟨⟨v5, rfl, hv5⟩, hb5⟩
    have HV : Hid (Arg W4.heap.size w5 v5 (List.replicate D 0) ∧ Below w.heap.size w w5) := ⟨hv5, below_any HB4.out.1 hb5⟩
    obtain ⟨a5, c5, rfl, _⟩ := hv5.shape
    rw [List.length_replicate] at HV ⊢
    have hl5 := run_len Try.underlying25 a5 D c5
    clear hv5 hb5 HR hD
    go_wp2_with (go_at_call 19; refine (HN _ _).mono ?_; rintro e w6 ⟨rfl, rfl⟩)
    clear HN
    go_loopw [13] (fun i wr => ∃ k : Nat, k ≤ D ∧ i = .int .i64 k ∧ w5 = wr) (fun i _ => D - (intOf i).toNat)
    case atStart => exact ⟨0, Nat.zero_le _, rfl, rfl⟩
    case round =>
      obtain ⟨k, hk, rfl, rfl⟩ := hrel
      by_cases hlt : k < D
      · obtain ⟨bx, ox, hix, _, gx, _⟩ := HV.out.1.at k 0 (by rw [List.getElem?_replicate, if_pos hlt])
        have hki : (k : Int) < (D : Int) := by omega
        go_wp2
        go_roundw
        case rel => exact ⟨k + 1, by omega, by go_num, trivial⟩
        case measure => simp [intOf]; omega
      · obtain rfl : k = D := by omega
        go_wp2
        go_ret
        exact ⟨rfl, HV.out.2⟩

set_option maxRecDepth 100000 in
theorem lifted (os : Os) (started : os.Started) (H : Type) (enc : TypeId × Value → H) :
    ReturnsInHanded {} Try.checked os 6 .any (Rows.fileCutSpec.pre6 enc Try.prog Try.f6 Rows.fileCutRow.domain false) (Rows.fileCutSpec.post enc Try.prog Try.f6 false true false false) := by
  refine returnsInHanded_of_change_sized (C := Try.checked) own started (by kernel_rfl) Try.func6
    (ChangeSpec.witness6 (enc := enc) (C := Try.checked) false ⟨#[], #[.agg #[.int .i64 0, .slice none 0 0], .int .i64 0, .int .i64 0], []⟩ 8 (by kernel_rfl) (by kernel_rfl) (by kernel_rfl) (by kernel_rfl)) ?_
  intro W base args ds gs before hval0 hW hcnd hsz0 _
  have hval : ∀ (j : Nat) t v, Try.f6.params[j]? = some t → args[j]? = some v → Value.okWide Try.prog W .any base t v := hval0
  have hW' := hW
  obtain ⟨p, q, hA0, hV, rfl, hfz, hnd⟩ := hW
  have hA : DataW.TrodAll enc Try.prog W 0 (fun _ => true) true Try.f6.params.toList args.toList ds p := hA0
  have hsz : (DataW.weightsEach Try.prog (Try.f6.params.toList ++ Rows.fileCutSpec.plain.varTypes Try.prog) (ds ++ gs)).all (· ≤ reachBytes) = true := hsz0
  clear hsz0
  rw [Try.params6] at hA hval hsz
  obtain ⟨v0, vs0, d0, ds0, p0, q0, hargs, rfl, rfl, h0, r0⟩ := trodAll_cons hA
  obtain ⟨v1, vs1, d1, ds1, p1, q1, rfl, rfl, rfl, h1, r1⟩ := trodAll_cons r0
  obtain ⟨v2, vs2, d2, ds2, p2, q2, rfl, rfl, rfl, h2, r2⟩ := trodAll_cons r1
  obtain ⟨rfl, rfl, rfl⟩ := trodAll_nil r2
  obtain rfl : args = #[v0, v1, v2] := by cases args; simp_all
  obtain ⟨rfl, rfl⟩ := trodVars_none hV
  obtain ⟨cs0, rfl, hc0⟩ := okWide_struct Try.underlying24 (hval 0 24 v0 rfl rfl)
  obtain ⟨us0, rfl⟩ := as_list cs0
  have k0 := h0
  have lt0 : ∀ x ∈ p0, x.block < W.heap.size := by obtain ⟨m, hm⟩ := k0; exact DataW.trod_lt m _ _ _ hm
  obtain ⟨m0, hm0⟩ := h0
  obtain ⟨s0, A0, F0'⟩ := flR.reads hm0
  have F0 := F0' fun n hn => by have := List.all_eq_true.1 hsz _ (DataW.weights_mem_each (j := 0) rfl rfl n hn); simpa using this
  obtain ⟨a1, rfl, rfl, rfl, w1⟩ := open_int Try.underlying3 (hval 1 3 v1 rfl rfl) h1
  have b1 := bounds_i64 w1
  obtain ⟨a2, rfl, rfl, rfl, w2⟩ := open_int Try.underlying3 (hval 2 3 v2 rfl rfl) h2
  have b2 := bounds_i64 w2
  clear hA0 hval0
  refine (walk us0 s0 a1 a2 W A0 (fits_of F0)).mono fun e W' ⟨he, bel⟩ => ?_
  subst he
  exact ⟨_, rfl, _, _, _, [], _, [], hW', trodAll_mk1 (shut_bool Try.underlying4 _), (trodAll_cons_mk (Below.trod laidOut (by kernel_rfl) (of_decide_eq_true (by kernel_rfl)) k0 bel lt0) (trodAll_cons_mk (shut_int Try.underlying3 w1) (trodAll_cons_mk (shut_int Try.underlying3 w2) trodAll_mk0))), rfl, bel.frame _, fun h => by cases h⟩

theorem over : Rows.fileCutRow.holds Try.pinned (OpenSpec.ofChange Rows.fileCutSpec) :=
  OpenClaim.holds_of_wide 6 Try.f6 rfl rfl rfl rfl rfl rfl rfl ⟨rfl, rfl, rfl, rfl, rfl⟩ rfl rfl rfl rfl rfl (by kernel_rfl) Try.func6 (by kernel_rfl)
    (of_decide_eq_true (by kernel_rfl)) (by unfold Func.isWrapper; first | (rw [if_pos (by decide +kernel)]; kernel_rfl) | (rw [if_neg (by decide +kernel)]; exact ⟨rfl, rfl⟩))
    (fun os started H enc _ => lifted os started H enc)

end Go.Proofs.Ytgflfmpoeamnnaa.fileCut

namespace Go.Proofs.Ytgflfmpoeamnnaa
theorem fileCut_holds : Rows.FileCutSaid := fileCut.over
#print axioms fileCut_holds
end Go.Proofs.Ytgflfmpoeamnnaa
