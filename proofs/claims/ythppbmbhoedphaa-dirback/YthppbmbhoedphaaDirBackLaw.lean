/-
  DirBack: for every entries and every octets the law answers true: entries are read back from their octets; what is read is built again of what was read. No condition.
-/
import Derived.Test.YthppbmbhoedphaaDecode
namespace Go.Proofs.Ythppbmbhoedphaa

theorem derr_cases (b : List Int) : (derr b = 0 ∧ ∃ l, decL b = some l ∧ Chk l ∧ dval b = l) ∨ (derr b ≠ 0 ∧ dval b = []) := by
  cases h : decL b with
  | none => exact .inr ⟨by rw [(derr_short h).1]; decide, (derr_short h).2⟩
  | some l =>
    by_cases hc : Chk l
    · exact .inl ⟨(derr_ok h hc).1, l, rfl, hc, (derr_ok h hc).2⟩
    · exact .inr ⟨by rw [(derr_bad h hc).1]; decide, (derr_bad h hc).2⟩
theorem back_enc {l : List En} (h : Chk l) : derr (eval l) = 0 ∧ dval (eval l) = l := by
  rw [show eval l = enc l from if_pos h]
  exact derr_ok (dec_enc h.2.1) h
theorem back_dec {b : List Int} (ho : Oct b) (h : derr b = 0) : cerr (dval b) = 0 ∧ eval (dval b) = b := by
  rcases derr_cases b with ⟨_, l, h1, h2, h3⟩ | ⟨h1, _⟩
  · rw [h3]
    exact ⟨cerr_ok h2, by rw [show eval l = enc l from if_pos h2]; exact (enc_dec _ (Nat.le_refl _) ho h1).1⟩
  · exact absurd h h1
theorem dval_none {b : List Int} (h : derr b ≠ 0) : dval b = [] := by
  rcases derr_cases b with ⟨h1, _⟩ | ⟨_, h2⟩
  · exact absurd h1 h
  · exact h2

end Go.Proofs.Ythppbmbhoedphaa

namespace Go.Proofs.Ythppbmbhoedphaa.dirBack
open Go.ChangeShapes Go.WideShapes Go.ChangeAt Go.RowKit

set_option maxRecDepth 100000 in
set_option maxHeartbeats 4000000 in
theorem walk (v : Value) (l : List En) (vb : Value) (b : List Int) (w : World) (h : ArgE 0 w v l) (hf : l.length * 24 ≤ 140737488351232) (hv : Arg 0 w vb b) : Calls Try.prog 5 #[v, vb] w fun e w' => e = .returned (.bool true) ∧ Below w.heap.size w w' := by
  have KF : Hid (∀ V, Below w.heap.size w V → ArgE 0 V v l ∧ Arg 0 V vb b) := fun V hV => ⟨h.below hV, hv.below hV⟩
  have HI : Hid (l.length * 24 ≤ 140737488351232 ∧ Oct b) := ⟨hf, hv.oct⟩
  have HA := alive_any w
  clear h hf hv
  go_enter Try.func5, Try.ntmps5
  go_wp2_with fail
  refine HA.mono ?_
  rintro e w1 ⟨rfl, hb1⟩
  have HB1 : Hid (Below w.heap.size w w1) := hb1
  have H2 := of_any 0 v l w1 (KF.out w1 hb1).1 HI.out.1
  clear HA hb1
  go_wp2_with fail
  refine H2.mono ?_
  rintro e w2 ⟨⟨v2, rfl, hO2⟩, hb2⟩
  have HB2 : Hid (Below w.heap.size w w2) := below_any HB1.out hb2
  have H3 := encode_any _ v2 l w2 hO2.arg
  clear H2 hO2 hb2
  go_wp2_with fail
  refine H3.mono ?_
  rintro e w3 ⟨⟨v3, rfl, hO3⟩, hb3⟩
  have HB3 : Hid (Below w.heap.size w w3) := below_any HB2.out hb3
  clear H3 hb3
  by_cases hck : Chk l
  · rw [cerr_ok hck]
    obtain ⟨k1, k2⟩ := back_enc hck
    have H4 := decode_any _ v3 (eval l) w3 hO3.arg
    rw [k1, k2] at H4
    clear hck k1 k2 hO3
    go_wp2_with (go_at_call 16; refine (num_any _ _).mono ?_; rintro e w4 ⟨rfl, rfl⟩)
    refine H4.mono ?_
    rintro e w4 ⟨⟨v4, rfl, hO4⟩, hb4⟩
    have HB4 : Hid (Below w.heap.size w w4) := below_any HB3.out hb4
    have H5 := alike_any _ 0 v4 v l l w4 hO4.arg (KF.out w4 HB4.out).1
    rw [if_pos rfl] at H5
    clear H4 hO4 hb4
    go_wp2_with (go_at_call 16; refine (num_any _ _).mono ?_; rintro e w5 ⟨rfl, rfl⟩)
    refine H5.mono ?_
    rintro e w5 ⟨rfl, q5, hq5⟩
    have HB5 : Hid (Below w.heap.size w w5) := by rw [hq5]; exact below_drewN HB4.out q5
    clear H5 hq5
    have H6 := decode_any 0 vb b w5 (KF.out w5 HB5.out).2
    obtain ⟨E, hE⟩ : ∃ E, E = derr b := ⟨_, rfl⟩
    obtain ⟨R, hR⟩ : ∃ E, E = dval b := ⟨_, rfl⟩
    rw [← hE, ← hR] at H6
    have HE : Hid (E = derr b ∧ R = dval b) := ⟨hE, hR⟩
    clear hE hR
    go_wp2_with (go_at_call 16; refine (num_any _ _).mono ?_; rintro e w6 ⟨rfl, rfl⟩)
    refine H6.mono ?_
    rintro e w6 ⟨⟨v6, rfl, hO6⟩, hb6⟩
    have HB6 : Hid (Below w.heap.size w w6) := below_any HB5.out hb6
    clear H6 hb6
    by_cases hE0 : E = 0
    · subst hE0
      obtain ⟨k3, k4⟩ := back_dec HI.out.2 HE.out.1.symm
      have H7 := encode_any _ v6 R w6 hO6.arg
      rw [HE.out.2] at H7
      rw [k3, k4] at H7
      clear k3 k4 hO6
      go_wp2_with (go_at_call 16; refine (num_any _ _).mono ?_; rintro e w7 ⟨rfl, rfl⟩)
      refine H7.mono ?_
      rintro e w7 ⟨⟨v7, rfl, hO7⟩, hb7⟩
      have HB7 : Hid (Below w.heap.size w w7) := below_any HB6.out hb7
      have H8 := same_any _ 0 v7 vb b b w7 hO7.arg (KF.out w7 HB7.out).2
      rw [decide_eq_true rfl] at H8
      clear H7 hO7 hb7
      go_wp2_with (go_at_call 16; refine (num_any _ _).mono ?_; rintro e w8 ⟨rfl, rfl⟩)
      refine H8.mono ?_
      rintro e w8 ⟨rfl, q8, hq8⟩
      have HB8 : Hid (Below w.heap.size w w8) := by rw [hq8]; exact below_drewN HB7.out q8
      clear hq8
      go_wp2
      go_ret
      exact ⟨rfl, HB8.out⟩
    · have hR0 : R = [] := by rw [HE.out.2]; exact dval_none (by rw [← HE.out.1]; exact hE0)
      subst hR0
      have hln := hO6.arg.len
      simp only [List.length_nil] at hln
      clear hO6
      go_wp2_with (go_at_call 16; refine (num_any _ _).mono ?_; rintro e w7 ⟨rfl, rfl⟩)
      go_ret
      exact ⟨rfl, HB6.out⟩
  · rw [cerr_bad hck]
    clear hck hO3
    have H6 := decode_any 0 vb b w3 (KF.out w3 HB3.out).2
    obtain ⟨E, hE⟩ : ∃ E, E = derr b := ⟨_, rfl⟩
    obtain ⟨R, hR⟩ : ∃ E, E = dval b := ⟨_, rfl⟩
    rw [← hE, ← hR] at H6
    have HE : Hid (E = derr b ∧ R = dval b) := ⟨hE, hR⟩
    clear hE hR
    go_wp2_with (go_at_call 16; refine (num_any _ _).mono ?_; rintro e w6 ⟨rfl, rfl⟩)
    refine H6.mono ?_
    rintro e w6 ⟨⟨v6, rfl, hO6⟩, hb6⟩
    have HB6 : Hid (Below w.heap.size w w6) := below_any HB3.out hb6
    clear H6 hb6
    by_cases hE0 : E = 0
    · subst hE0
      obtain ⟨k3, k4⟩ := back_dec HI.out.2 HE.out.1.symm
      have H7 := encode_any _ v6 R w6 hO6.arg
      rw [HE.out.2] at H7
      rw [k3, k4] at H7
      clear k3 k4 hO6
      go_wp2_with (go_at_call 16; refine (num_any _ _).mono ?_; rintro e w7 ⟨rfl, rfl⟩)
      refine H7.mono ?_
      rintro e w7 ⟨⟨v7, rfl, hO7⟩, hb7⟩
      have HB7 : Hid (Below w.heap.size w w7) := below_any HB6.out hb7
      have H8 := same_any _ 0 v7 vb b b w7 hO7.arg (KF.out w7 HB7.out).2
      rw [decide_eq_true rfl] at H8
      clear H7 hO7 hb7
      go_wp2_with (go_at_call 16; refine (num_any _ _).mono ?_; rintro e w8 ⟨rfl, rfl⟩)
      refine H8.mono ?_
      rintro e w8 ⟨rfl, q8, hq8⟩
      have HB8 : Hid (Below w.heap.size w w8) := by rw [hq8]; exact below_drewN HB7.out q8
      clear hq8
      go_wp2
      go_ret
      exact ⟨rfl, HB8.out⟩
    · have hR0 : R = [] := by rw [HE.out.2]; exact dval_none (by rw [← HE.out.1]; exact hE0)
      subst hR0
      have hln := hO6.arg.len
      simp only [List.length_nil] at hln
      clear hO6
      go_wp2_with (go_at_call 16; refine (num_any _ _).mono ?_; rintro e w7 ⟨rfl, rfl⟩)
      go_ret
      exact ⟨rfl, HB6.out⟩

set_option maxRecDepth 100000 in
theorem lifted (os : Os) (started : os.Started) (H : Type) (enc : TypeId × Value → H) :
    ReturnsInHanded {} Try.checked os 5 .any (Rows.dirBackSpec.pre6 enc Try.prog Try.f5 Rows.dirBackRow.domain false) (Rows.dirBackSpec.post enc Try.prog Try.f5 false true false false) := by
  refine returnsInHanded_of_change_sized (C := Try.checked) own started (by kernel_rfl) Try.func5
    (ChangeSpec.witness6 (enc := enc) (C := Try.checked) false ⟨#[], #[.slice none 0 0, .slice none 0 0], []⟩ 8 (by kernel_rfl) (by kernel_rfl) (by kernel_rfl) (by kernel_rfl)) ?_
  intro W base args ds gs before hval0 hW hcnd hsz0 _
  have hval : ∀ (j : Nat) t v, Try.f5.params[j]? = some t → args[j]? = some v → Value.okWide Try.prog W .any base t v := hval0
  have hW' := hW
  obtain ⟨p, q, hA0, hV, rfl, hfz, hnd⟩ := hW
  have hA : DataW.TrodAll enc Try.prog W 0 (fun _ => true) true Try.f5.params.toList args.toList ds p := hA0
  have hsz : (DataW.weightsEach Try.prog (Try.f5.params.toList ++ Rows.dirBackSpec.plain.varTypes Try.prog) (ds ++ gs)).all (· ≤ reachBytes) = true := hsz0
  clear hsz0
  rw [Try.params5] at hA hval hsz
  obtain ⟨v0, vs0, d0, ds0, p0, q0, hargs, rfl, rfl, h0, r0⟩ := trodAll_cons hA
  obtain ⟨v1, vs1, d1, ds1, p1, q1, rfl, rfl, rfl, h1, r1⟩ := trodAll_cons r0
  obtain ⟨rfl, rfl, rfl⟩ := trodAll_nil r1
  obtain rfl : args = #[v0, v1] := by cases args; simp_all
  obtain ⟨rfl, rfl⟩ := trodVars_none hV
  obtain ⟨x0, len0, cap0, rfl⟩ := okWide_slice Try.underlying22 (hval 0 22 v0 rfl rfl)
  have k0 := h0
  have lt0 : ∀ x ∈ p0, x.block < W.heap.size := by obtain ⟨m, hm⟩ := k0; exact DataW.trod_lt m _ _ _ hm
  obtain ⟨m0, hm0⟩ := h0
  obtain ⟨s0, A0, F0'⟩ := ensR.reads hm0
  have F0 := F0' fun n hn => by have := List.all_eq_true.1 hsz _ (DataW.weights_mem_each (j := 0) rfl rfl n hn); simpa using this
  obtain ⟨x1, len1, cap1, rfl⟩ := okWide_slice Try.underlying47 (hval 1 47 v1 rfl rfl)
  have k1 := h1
  have lt1 : ∀ x ∈ p1, x.block < W.heap.size := by obtain ⟨m, hm⟩ := k1; exact DataW.trod_lt m _ _ _ hm
  obtain ⟨m1, hm1⟩ := h1
  obtain ⟨s1, A1, F1'⟩ := bytesS.reads hm1
  have F1 := F1' fun n hn => by have := List.all_eq_true.1 hsz _ (DataW.weights_mem_each (j := 1) rfl rfl n hn); simpa using this
  clear hA0 hval0
  refine (walk _ s0 _ s1 W (args_of A0) (fits_of F0) A1).mono fun e W' ⟨he, bel⟩ => ?_
  subst he
  exact ⟨_, rfl, _, _, _, [], _, [], hW', trodAll_mk1 (shut_bool Try.underlying4 _), (trodAll_cons_mk (Below.trod laidOut (by kernel_rfl) (of_decide_eq_true (by kernel_rfl)) k0 bel lt0) (trodAll_cons_mk (Below.trod laidOut (by kernel_rfl) (of_decide_eq_true (by kernel_rfl)) k1 bel lt1) trodAll_mk0)), rfl, bel.frame _, fun h => by cases h⟩

theorem over : Rows.dirBackRow.holds Try.pinned (OpenSpec.ofChange Rows.dirBackSpec) :=
  OpenClaim.holds_of_wide 5 Try.f5 rfl rfl rfl rfl rfl rfl rfl ⟨rfl, rfl, rfl, rfl, rfl⟩ rfl rfl rfl rfl rfl (by kernel_rfl) Try.func5 (by kernel_rfl)
    (of_decide_eq_true (by kernel_rfl)) (by unfold Func.isWrapper; first | (rw [if_pos (by decide +kernel)]; kernel_rfl) | (rw [if_neg (by decide +kernel)]; exact ⟨rfl, rfl⟩))
    (fun os started H enc _ => lifted os started H enc)

end Go.Proofs.Ythppbmbhoedphaa.dirBack

namespace Go.Proofs.Ythppbmbhoedphaa
theorem dirBack_holds : Rows.DirBackSaid := dirBack.over
#print axioms dirBack_holds
end Go.Proofs.Ythppbmbhoedphaa
