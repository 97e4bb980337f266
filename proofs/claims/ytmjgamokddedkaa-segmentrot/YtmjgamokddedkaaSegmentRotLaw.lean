/-
  SegmentRot, proved: for every segment, every place and every octet (as great as the form reads them): the call returns true, and changes nothing that was in memory. No condition of its own.
-/
import Derived.Test.YtmjgamokddedkaaAlive
import Derived.Laws.BitsAllLaws
import Derived.Test.YtmjgamokddedkaaAlikeL
import Derived.Test.YtmjgamokddedkaaOfL
import Derived.Test.YtmjgamokddedkaaFrame
namespace Go.Proofs.Ytmjgamokddedkaa.segmentRot
open Go.ChangeShapes Go.WideShapes Go.ChangeAt Go.RowKit
open O (nv oct)
set_option linter.unusedVariables false

theorem spot (x : Int) : ∃ (t : Int) (j : Nat), Int.tmod x 384 = t ∧ -384 < t ∧ t < 384 ∧ Int.tmod (t + 384) 384 = j ∧ j < 384 := by
  have h1 := Int.tmod_lt_of_pos x (show (0 : Int) < 384 by omega)
  have h2 : -384 < Int.tmod x 384 := Int.lt_tmod_of_pos x (show (0 : Int) < 384 by omega)
  refine ⟨_, (Int.tmod (Int.tmod x 384 + 384) 384).toNat, rfl, h2, h1, ?_, ?_⟩
  · have := Int.tmod_nonneg (a := Int.tmod x 384 + 384) 384 (by omega)
    omega
  · have := Int.tmod_lt_of_pos (Int.tmod x 384 + 384) (show (0 : Int) < 384 by omega)
    have h0 := Int.tmod_nonneg (a := Int.tmod x 384 + 384) 384 (by omega)
    omega
theorem xor_ne : ∀ x b : Fin 256, b.val ≠ 0 → bits .xor .u8 (x.val : Int) (b.val : Int) ≠ (x.val : Int) ∧ 0 ≤ bits .xor .u8 (x.val : Int) (b.val : Int) ∧ bits .xor .u8 (x.val : Int) (b.val : Int) ≤ 255 := by
  intro x b hb
  rw [u8_xor_nat _ _ x.isLt b.isLt]
  refine ⟨fun h => hb ?_, by omega, ?_⟩
  · have h1 : x.val ^^^ b.val = x.val := by omega
    have h2 : x.val ^^^ (x.val ^^^ b.val) = x.val ^^^ x.val := by rw [h1]
    rw [← Nat.xor_assoc, Nat.xor_self, Nat.zero_xor] at h2
    exact h2
  · have := Nat.xor_lt_two_pow (n := 8) x.isLt b.isLt
    omega
theorem wf_u8 {x : Int} (h : (Lit.int .u8 x).wf = true) : 0 ≤ x ∧ x ≤ 255 := by
  simp [Lit.wf, IntKind.min, IntKind.max, IntKind.signed, IntKind.bits] at h
  omega
theorem u8_wf {x : Int} (h : 0 ≤ x ∧ x ≤ 255) : (Lit.int .u8 x).wf = true := by
  simp [Lit.wf, IntKind.min, IntKind.max, IntKind.signed, IntKind.bits]
  omega

set_option maxRecDepth 100000 in
set_option maxHeartbeats 8000000 in
theorem walk (n0 : Nat) (us : List Value) (s : Sg) (p b : Int) (w : World) (h : sgR.lies n0 w us s) (hf : Fits s) (hb : 0 ≤ b ∧ b ≤ 255) :
    Calls Try.prog 5 #[.agg us.toArray, .int .i64 p, .int .u8 b] w fun e w' => e = .returned (.bool true) ∧ Below w.heap.size w w' := by
  have HBB : Hid (0 ≤ b ∧ b ≤ 255) := hb
  clear hb
  obtain ⟨ra, rc, rfl, hRL, hRi, hRm⟩ := sg_viewR h
  obtain ⟨W, hW⟩ : ∃ W, W = w.alloc (.cells #[.int .i64 s.1, .slice ra s.2.length rc] 24) := ⟨_, rfl⟩
  have HB0 : Hid (Below w.heap.size w W) := by rw [hW]; exact (Below.refl _ _).alloc (Nat.le_refl _) _
  have HX0 : Hid (Box W w.heap.size 24 #[.int .i64 s.1, .slice ra s.2.length rc]) := by rw [hW]; exact Box.new _ _ _
  have HR : Hid (sgR.lies n0 w [.int .i64 s.1, .slice ra s.2.length rc] s ∧ Fits s) := ⟨h, hf⟩
  have HC := alive_any W
  obtain ⟨sn, hsn⟩ : ∃ z, z = s.2.length := ⟨_, rfl⟩
  obtain ⟨sq1, hsq1⟩ : ∃ z, z = s.1 := ⟨_, rfl⟩
  rw [← hsn, ← hsq1] at hW HX0 HR
  rw [← hsn, ← hsq1]
  clear h hf hRL hRi hRm hsn hsq1
  go_enter Try.func5, Try.ntmps5
  go_wp2_with fail
  rw [← hW]
  clear hW
  refine HC.mono ?_
  rintro e w1 ⟨rfl, hb1⟩
  have H1 : Hid (Below w.heap.size w w1) := below_any HB0.out hb1
  have HX1 : Hid (Box w1 w.heap.size 24 #[.int .i64 sq1, .slice ra sn rc]) := HX0.out.below hb1 HX0.out.lt
  clear hb1 HC HB0 HX0
  obtain ⟨g0, g1, -, -⟩ := HX1.out.two
  have HC := of_any _ _ _ w1 (sgR.below HR.out.1 H1.out) HR.out.2
  go_wp2_with fail
  refine HC.mono ?_
  rintro e w2 ⟨⟨us2, rfl, hO2⟩, hb2⟩
  have H2 : Hid (Below w.heap.size w w2 ∧ Below w1.heap.size w1 w2) := ⟨below_any H1.out hb2, hb2⟩
  have HX2 : Hid (Box w2 w.heap.size 24 #[.int .i64 sq1, .slice ra sn rc]) := HX1.out.below hb2 HX1.out.lt
  have HL2 : Hid (sgN.owns w1.heap.size w2 us2 s) := hO2
  clear hb2 hO2 HC g0 g1 HX1
  have HC := seal_any _ us2 s w2 (sgN.olies HL2.out)
  go_wp2_with fail
  refine HC.mono ?_
  rintro e w3 ⟨⟨vb, rfl, hO3⟩, hb3⟩
  have H3 : Hid (Below w.heap.size w w3 ∧ Below w2.heap.size w2 w3) := ⟨below_any H2.out.1 hb3, hb3⟩
  have HX3 : Hid (Box w3 w.heap.size 24 #[.int .i64 sq1, .slice ra sn rc]) := HX2.out.below hb3 HX2.out.lt
  have HO3 : Hid (Own1 w2.heap.size w3 vb (sealV s)) := hO3
  clear hb3 hO3 HC HX2
  by_cases hc : Chk s
  case neg =>
    rw [cerr_bad hc]
    rw [seal_bad hc] at HO3
    have hll := HO3.out.arg.len
    have HE : Hid (Below w.heap.size w w3) := H3.out.1
    clear H1 H2 HL2 H3 HX3 HO3 HR hc
    go_wp2_with (go_at_call 18; refine (num_any _ _).mono ?_; rintro e wn ⟨rfl, rfl⟩)
    go_ret
    exact ⟨rfl, HE.out⟩
  rw [cerr_ok hc]
  rw [seal_ok hc] at HO3
  by_cases hb0 : b = 0
  · subst hb0
    have HE : Hid (Below w.heap.size w w3) := H3.out.1
    clear H1 H2 HL2 H3 HX3 HO3 HR hc
    go_wp2_with (go_at_call 18; refine (num_any _ _).mono ?_; rintro e wn ⟨rfl, rfl⟩)
    go_ret
    exact ⟨rfl, HE.out⟩
  have hrow := HO3.out.row
  have hoct := HO3.out.oct
  obtain ⟨L, hL⟩ : ∃ L, L = sealO s := ⟨_, rfl⟩
  have HLR : Hid (∀ j, j < 384 → ∀ y : Int, 0 ≤ y ∧ y ≤ 255 → L[j]? ≠ some y → oE (L.set j y) = 21) := fun j hj y hy hne => by
    rw [hL] at hne ⊢
    exact rot_seal hc hoct hj hy hne
  have hN : L.length = 384 := by rw [hL]; exact seal_length hc
  rw [← hL] at hrow hoct
  rw [hN] at hrow
  obtain ⟨g, cap, hv, _, _⟩ := hrow.form (by decide)
  subst hv
  obtain ⟨t, j, ht, ht1, ht2, hj, hj2⟩ := spot p
  have hjl : j < L.length := by omega
  have hcell : w3.cell? ⟨g, j, none⟩ = some (.int .u8 (L.getD j 0)) := by
    rw [hrow.cellAt j (by omega), List.getElem?_map, List.getElem?_eq_getElem hjl]
    simp [List.getElem?_eq_getElem hjl]
  have hfz := hrow.frozenAt j
  have hx : 0 ≤ L.getD j 0 ∧ L.getD j 0 ≤ 255 := octs hoct _ (by simp [List.getD, List.getElem?_eq_getElem hjl])
  have hxL : L[j]? = some (L.getD j 0) := by simp [List.getD, List.getElem?_eq_getElem hjl]
  obtain ⟨x, hxd⟩ : ∃ x, x = L.getD j 0 := ⟨_, rfl⟩
  rw [← hxd] at hcell hx hxL
  have hxy := xor_ne ⟨x.toNat, by omega⟩ ⟨b.toNat, by have := HBB.out; omega⟩ (by have := HBB.out; simp; omega)
  simp only [Int.toNat_of_nonneg hx.1, Int.toNat_of_nonneg HBB.out.1] at hxy
  obtain ⟨y, hy⟩ : ∃ y, y = bits .xor .u8 x b := ⟨_, rfl⟩
  rw [← hy] at hxy
  have hst := hrow.stored j (.int .u8 y)
  have HO4 : Hid (Own1 w2.heap.size (w3.setCell ⟨g, j, none⟩ (.int .u8 y)) (.slice (some ⟨g, 0, none⟩) 384 cap) (L.set j y) ∧ Below w.heap.size w (w3.setCell ⟨g, j, none⟩ (.int .u8 y))) := by
    refine ⟨.mk ?_ (fun z hz => ?_), ?_⟩
    · rw [List.length_set, hN, List.map_set]
      exact hst.1
    · rcases List.mem_or_eq_of_mem_set hz with h1 | h1
      · exact hoct z h1
      · rw [h1]; exact u8_wf hxy.2
    · exact H3.out.1.setCell (p := ⟨g, j, none⟩) (by
        have := (hrow.lt g rfl).1
        have := H2.out.1.size
        simp
        omega) _
  have hER : oE (L.set j y) = 21 := HLR.out j hj2 y hxy.2 (by rw [hxL]; simp only [Option.some.injEq, ne_eq]; exact fun e => hxy.1 e.symm)
  have HC := open_any _ _ (L.set j y) _ HO4.out.1.arg
  rw [hER, oS_no hER (by decide)] at HC
  have hji : (j : Int) < 384 := by omega
  have hb0b : (b == 0) = false := by simpa using hb0
  clear hrow hoct hL HLR hN hjl hxL hxd hx hxy hst hER H1 H2 HL2 H3 HX3 HO3 HR hc hb0 HBB
  go_wp2_with (go_at_call 18; refine (num_any _ _).mono ?_; rintro e wn ⟨rfl, rfl⟩)
  rw [← hy]
  refine HC.mono ?_
  rintro e w5 ⟨⟨us5, rfl, hS5⟩, hb5⟩
  obtain ⟨a5, c5, rfl, -⟩ := sg_viewN hS5
  have HB5 : Hid (Below w.heap.size w w5) := below_any HO4.out.2 hb5
  have hE := (Box.new w5 28 #[.int .i64 0, .slice a5 0 c5]).two
  obtain ⟨s0, s1, s2, s3⟩ := hE
  have HE : Hid (Below w.heap.size w (w5.alloc (.cells #[.int .i64 0, .slice a5 0 c5] 28))) := HB5.out.alloc (by have := HB5.out.size; omega) _
  clear hb5 HC ht hj hcell hfz hS5 HB5 HO4 hy
  go_wp2_with (go_at_call 18; refine (num_any _ _).mono ?_; rintro e wn ⟨rfl, rfl⟩)
  go_ret
  exact ⟨rfl, HE.out⟩

set_option maxRecDepth 100000 in
theorem lifted (os : Os) (started : os.Started) (H : Type) (enc : TypeId × Value → H) :
    ReturnsInHanded {} Try.checked os 5 .any (Rows.segmentRotSpec.pre6 enc Try.prog Try.f5 Rows.segmentRotRow.domain false) (Rows.segmentRotSpec.post enc Try.prog Try.f5 false true false false) := by
  refine returnsInHanded_of_change_sized (C := Try.checked) own started (by kernel_rfl) Try.func5
    (ChangeSpec.witness6 (enc := enc) (C := Try.checked) false ⟨#[], #[.agg #[.int .i64 0, .slice none 0 0], .int .i64 0, .int .u8 0], []⟩ 8 (by kernel_rfl) (by kernel_rfl) (by kernel_rfl) (by kernel_rfl)) ?_
  intro W base args ds gs before hval0 hW hcnd hsz0 _
  have hval : ∀ (j : Nat) t v, Try.f5.params[j]? = some t → args[j]? = some v → Value.okWide Try.prog W .any base t v := hval0
  have hW' := hW
  obtain ⟨p, q, hA0, hV, rfl, hfz, hnd⟩ := hW
  have hA : DataW.TrodAll enc Try.prog W 0 (fun _ => true) true Try.f5.params.toList args.toList ds p := hA0
  have hsz : (DataW.weightsEach Try.prog (Try.f5.params.toList ++ Rows.segmentRotSpec.plain.varTypes Try.prog) (ds ++ gs)).all (· ≤ reachBytes) = true := hsz0
  clear hsz0
  rw [Try.params5] at hA hval hsz
  obtain ⟨v0, vs0, d0, ds0, p0, q0, hargs, rfl, rfl, h0, r0⟩ := trodAll_cons hA
  obtain ⟨v1, vs1, d1, ds1, p1, q1, rfl, rfl, rfl, h1, r1⟩ := trodAll_cons r0
  obtain ⟨v2, vs2, d2, ds2, p2, q2, rfl, rfl, rfl, h2, r2⟩ := trodAll_cons r1
  obtain ⟨rfl, rfl, rfl⟩ := trodAll_nil r2
  obtain rfl : args = #[v0, v1, v2] := by cases args; simp_all
  obtain ⟨rfl, rfl⟩ := trodVars_none hV
  obtain ⟨cs0, rfl, hc0⟩ := okWide_struct Try.underlying24 (hval 0 24 v0 rfl rfl)
  obtain ⟨us0, rfl⟩ := as_list cs0
  have k0 := h0
  have lt0 : ∀ x ∈ p0, x.block < W.heap.size := by obtain ⟨m, hm⟩ := k0; exact DataW.trod_lt m _ _ _ hm
  obtain ⟨m0, hm0⟩ := h0
  obtain ⟨s0, A0, F0'⟩ := sgR.reads hm0
  have F0 := F0' fun n hn => by have := List.all_eq_true.1 hsz _ (DataW.weights_mem_each (j := 0) rfl rfl n hn); simpa using this
  obtain ⟨a1, rfl, rfl, rfl, w1⟩ := open_int Try.underlying3 (hval 1 3 v1 rfl rfl) h1
  have b1 := bounds_i64 w1
  obtain ⟨a2, rfl, rfl, rfl, w2⟩ := open_int Try.underlying5 (hval 2 5 v2 rfl rfl) h2
  have b2 := wf_u8 w2
  clear hA0 hval0
  refine (walk 0 us0 s0 a1 a2 W A0 (fits_of F0) b2).mono fun e W' ⟨he, bel⟩ => ?_
  subst he
  exact ⟨_, rfl, _, _, _, [], _, [], hW', trodAll_mk1 (shut_bool Try.underlying4 _), (trodAll_cons_mk (Below.trod laidOut (by kernel_rfl) (of_decide_eq_true (by kernel_rfl)) k0 bel lt0) (trodAll_cons_mk (shut_int Try.underlying3 w1) (trodAll_cons_mk (shut_int Try.underlying5 w2) trodAll_mk0))), rfl, bel.frame _, fun h => by cases h⟩

theorem over : Rows.segmentRotRow.holds Try.pinned (OpenSpec.ofChange Rows.segmentRotSpec) :=
  OpenClaim.holds_of_wide 5 Try.f5 rfl rfl rfl rfl rfl rfl rfl ⟨rfl, rfl, rfl, rfl, rfl⟩ rfl rfl rfl rfl rfl (by kernel_rfl) Try.func5 (by kernel_rfl)
    (of_decide_eq_true (by kernel_rfl)) (by unfold Func.isWrapper; first | (rw [if_pos (by decide +kernel)]; kernel_rfl) | (rw [if_neg (by decide +kernel)]; exact ⟨rfl, rfl⟩))
    (fun os started H enc _ => lifted os started H enc)

end Go.Proofs.Ytmjgamokddedkaa.segmentRot

namespace Go.Proofs.Ytmjgamokddedkaa
theorem segmentRot_holds : Rows.SegmentRotSaid := segmentRot.over
#print axioms segmentRot_holds
end Go.Proofs.Ytmjgamokddedkaa
