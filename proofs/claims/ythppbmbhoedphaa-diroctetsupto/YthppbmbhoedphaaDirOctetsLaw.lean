/-
  DirOctets, proved for what is of bulk at most 1048576 (the second form): for every entries and every octets within that bound the law answers true: entries as octets, and octets read as entries, are as the document says.
-/
import Derived.Test.YthppbmbhoedphaaRDecode
import Derived.Test.YthppbmbhoedphaaBulk
import Derived.JoinedCond
namespace Go.Proofs.Ythppbmbhoedphaa.dirOctets
open Go.ChangeShapes Go.WideShapes Go.ChangeAt Go.RowKit
set_option linter.unusedVariables false

set_option maxRecDepth 100000 in
set_option maxHeartbeats 4000000 in
theorem walk (v : Value) (l : List En) (vb : Value) (b : List Int) (w : World) (h : ArgE 0 w v l) (hf : l.length ≤ 1048576) (hv : Arg 0 w vb b) (hbl : b.length ≤ 1048576) : Calls Try.prog 4 #[v, vb] w fun e w' => e = .returned (.bool true) ∧ Below w.heap.size w w' := by
  have KF : Hid (∀ V, Below w.heap.size w V → ArgE 0 V v l ∧ Arg 0 V vb b) := fun V hV => ⟨h.below hV, hv.below hV⟩
  have HI : Hid (b.length ≤ 1048576) := hbl
  have H1 := of_any 0 v l w h (by omega)
  obtain ⟨C, hC⟩ : ∃ A, A = cerr l := ⟨_, rfl⟩
  obtain ⟨X, hX⟩ : ∃ A, A = eval l := ⟨_, rfl⟩
  obtain ⟨D, hD⟩ : ∃ A, A = derr b := ⟨_, rfl⟩
  obtain ⟨R, hR⟩ : ∃ A, A = dval b := ⟨_, rfl⟩
  have HV : Hid (C = cerr l ∧ X = eval l ∧ D = derr b ∧ R = dval b) := ⟨hC, hX, hD, hR⟩
  clear h hf hv hbl hC hX hD hR
  go_enter Try.func4, Try.ntmps4
  go_wp2_with fail
  refine H1.mono ?_
  rintro e w1 ⟨⟨v1, rfl, hO1⟩, hb1⟩
  have HB1 : Hid (Below w.heap.size w w1) := hb1
  have K1 : Hid (∀ V, Below w1.heap.size w1 V → ArgE w.heap.size V v1 l) := fun V hV => hO1.arg.below hV
  have H2 := copy_any 0 vb b w1 (KF.out w1 hb1).2 (by have := HI.out; omega)
  clear H1 hO1 hb1
  go_wp2_with fail
  refine H2.mono ?_
  rintro e w2 ⟨⟨v2, rfl, hO2⟩, hb2⟩
  have HB2 : Hid (Below w.heap.size w w2 ∧ Below w1.heap.size w1 w2) := ⟨below_any HB1.out hb2, hb2⟩
  have K2 : Hid (∀ V, Below w2.heap.size w2 V → Arg w1.heap.size V v2 b) := fun V hV => hO2.arg.below hV
  have H3 := encode_any _ v1 l w2 (K1.out w2 hb2)
  rw [← HV.out.1, ← HV.out.2.1] at H3
  clear H2 hO2 hb2
  go_wp2_with fail
  refine H3.mono ?_
  rintro e w3 ⟨⟨v3, rfl, hO3⟩, hb3⟩
  have HB3 : Hid (Below w.heap.size w w3 ∧ Below w1.heap.size w1 w3 ∧ Below w2.heap.size w2 w3) := ⟨below_any HB2.out.1 hb3, below_any HB2.out.2 hb3, hb3⟩
  have K3 : Hid (∀ V, Below w3.heap.size w3 V → Arg w2.heap.size V v3 X) := fun V hV => hO3.arg.below hV
  have H4 := rencode_any 0 v l w3 (KF.out w3 HB3.out.1).1
  rw [← HV.out.1, ← HV.out.2.1] at H4
  clear H3 hO3 hb3
  go_wp2_with fail
  refine H4.mono ?_
  rintro e w4 ⟨⟨v4, rfl, hO4⟩, hb4⟩
  have HB4 : Hid (Below w.heap.size w w4 ∧ Below w1.heap.size w1 w4 ∧ Below w2.heap.size w2 w4 ∧ Below w3.heap.size w3 w4) := ⟨below_any HB3.out.1 hb4, below_any HB3.out.2.1 hb4, below_any HB3.out.2.2 hb4, hb4⟩
  have K4 : Hid (∀ V, Below w4.heap.size w4 V → Arg w3.heap.size V v4 X) := fun V hV => hO4.arg.below hV
  have H5 := decode_any _ v2 b w4 (K2.out w4 HB4.out.2.2.1)
  rw [← HV.out.2.2.1, ← HV.out.2.2.2] at H5
  clear H4 hO4 hb4
  go_wp2_with fail
  refine H5.mono ?_
  rintro e w5 ⟨⟨v5, rfl, hO5⟩, hb5⟩
  have HB5 : Hid (Below w.heap.size w w5 ∧ Below w1.heap.size w1 w5 ∧ Below w2.heap.size w2 w5 ∧ Below w3.heap.size w3 w5 ∧ Below w4.heap.size w4 w5) := ⟨below_any HB4.out.1 hb5, below_any HB4.out.2.1 hb5, below_any HB4.out.2.2.1 hb5, below_any HB4.out.2.2.2 hb5, hb5⟩
  have K5 : Hid (∀ V, Below w5.heap.size w5 V → ArgE w4.heap.size V v5 R) := fun V hV => hO5.arg.below hV
  have H6 := rdecode_any 0 vb b w5 (KF.out w5 HB5.out.1).2 HI.out
  rw [← HV.out.2.2.1, ← HV.out.2.2.2] at H6
  clear H5 hO5 hb5
  go_wp2_with fail
  refine H6.mono ?_
  rintro e w6 ⟨⟨v6, rfl, hO6⟩, hb6⟩
  have HB6 : Hid (Below w.heap.size w w6 ∧ Below w1.heap.size w1 w6 ∧ Below w2.heap.size w2 w6 ∧ Below w3.heap.size w3 w6 ∧ Below w4.heap.size w4 w6 ∧ Below w5.heap.size w5 w6) := ⟨below_any HB5.out.1 hb6, below_any HB5.out.2.1 hb6, below_any HB5.out.2.2.1 hb6, below_any HB5.out.2.2.2.1 hb6, below_any HB5.out.2.2.2.2 hb6, hb6⟩
  have K6 : Hid (∀ V, Below w6.heap.size w6 V → ArgE w5.heap.size V v6 R) := fun V hV => hO6.arg.below hV
  have H7 := same_any _ _ v3 v4 X X w6 (K3.out w6 HB6.out.2.2.2.1) (K4.out w6 HB6.out.2.2.2.2.1)
  rw [decide_eq_true rfl] at H7
  clear H6 hO6 hb6
  go_wp2_with fail
  refine H7.mono ?_
  rintro e w7 ⟨rfl, q7, hq7⟩
  have hb7 : Below w6.heap.size w6 w7 := by rw [hq7]; exact below_drewN (Below.refl _ _) _
  have HB7 : Hid (Below w.heap.size w w7 ∧ Below w1.heap.size w1 w7 ∧ Below w2.heap.size w2 w7 ∧ Below w5.heap.size w5 w7 ∧ Below w6.heap.size w6 w7) := ⟨below_any HB6.out.1 hb7, below_any HB6.out.2.1 hb7, below_any HB6.out.2.2.1 hb7, below_any HB6.out.2.2.2.2.2 hb7, hb7⟩
  have H8 := alike_any _ _ v5 v6 R R w7 (K5.out w7 HB7.out.2.2.2.1) (K6.out w7 HB7.out.2.2.2.2)
  rw [if_pos rfl] at H8
  clear H7 hb7 hq7
  go_wp2_with (go_at_call 16; refine (num_any _ _).mono ?_; rintro e w8 ⟨rfl, rfl⟩)
  refine H8.mono ?_
  rintro e w8 ⟨rfl, q8, hq8⟩
  have hb8 : Below w7.heap.size w7 w8 := by rw [hq8]; exact below_drewN (Below.refl _ _) _
  have HB8 : Hid (Below w.heap.size w w8 ∧ Below w1.heap.size w1 w8 ∧ Below w2.heap.size w2 w8) := ⟨below_any HB7.out.1 hb8, below_any HB7.out.2.1 hb8, below_any HB7.out.2.2.1 hb8⟩
  have H9 := alike_any _ 0 v1 v l l w8 (K1.out w8 HB8.out.2.1) (KF.out w8 HB8.out.1).1
  rw [if_pos rfl] at H9
  clear H8 hb8 hq8
  go_wp2_with (go_at_call 16; refine (num_any _ _).mono ?_; rintro e w9 ⟨rfl, rfl⟩)
  refine H9.mono ?_
  rintro e w9 ⟨rfl, q9, hq9⟩
  have hb9 : Below w8.heap.size w8 w9 := by rw [hq9]; exact below_drewN (Below.refl _ _) _
  have HB9 : Hid (Below w.heap.size w w9 ∧ Below w2.heap.size w2 w9) := ⟨below_any HB8.out.1 hb9, below_any HB8.out.2.2 hb9⟩
  have H10 := same_any _ 0 v2 vb b b w9 (K2.out w9 HB9.out.2) (KF.out w9 HB9.out.1).2
  rw [decide_eq_true rfl] at H10
  clear H9 hb9 hq9
  go_wp2_with fail
  refine H10.mono ?_
  rintro e w10 ⟨rfl, q10, hq10⟩
  have HB10 : Hid (Below w.heap.size w w10) := by rw [hq10]; exact below_drewN HB9.out.1 _
  have H11 := alive_any w10
  clear H10 hq10
  go_wp2_with fail
  refine H11.mono ?_
  rintro e w11 ⟨rfl, hb11⟩
  go_wp2
  go_ret
  exact ⟨rfl, below_any HB10.out hb11⟩

theorem contract (H : Type) (enc : TypeId × Value → H) (W : World) (base : Nat) (args : Array Value) (ds gs : List (DataW H)) (before : List MemPlace)
    (hval : ∀ (j : Nat) t v, Try.f4.params[j]? = some t → args[j]? = some v → Value.okWide Try.prog W .any base t v)
    (hW : DataW.Whole enc Try.prog Try.f4.params.toList Rows.dirOctetsSpec.vars false W args.toList ds gs before) (hk : Rows.uptoSmall H (ds ++ gs) = true) :
    Calls Try.prog 4 args W fun e W' => ∃ v, e = .returned v ∧ Rows.dirOctetsSpec.post enc Try.prog Try.f4 false true false false W args v W' := by
  have hW' := hW
  obtain ⟨p, q, hA0, hV, rfl, hfz, hnd⟩ := hW
  have hA : DataW.TrodAll enc Try.prog W 0 (fun _ => true) true Try.f4.params.toList args.toList ds p := hA0
  rw [Try.params4] at hA hval
  obtain ⟨v0, vs0, d0, ds0, p0, q0, hargs, rfl, rfl, h0, r0⟩ := trodAll_cons hA
  obtain ⟨v1, vs1, d1, ds1, p1, q1, rfl, rfl, rfl, h1, r1⟩ := trodAll_cons r0
  obtain ⟨rfl, rfl, rfl⟩ := trodAll_nil r1
  obtain rfl : args = #[v0, v1] := by cases args; simp_all
  obtain ⟨rfl, rfl⟩ := trodVars_none hV
  obtain ⟨x0, len0, cap0, rfl⟩ := okWide_slice Try.underlying22 (hval 0 22 v0 rfl rfl)
  have k0 := h0
  have lt0 : ∀ x ∈ p0, x.block < W.heap.size := by obtain ⟨m, hm⟩ := k0; exact DataW.trod_lt m _ _ _ hm
  obtain ⟨m0, hm0⟩ := h0
  obtain ⟨s0, A0, _⟩ := ensR.reads hm0
  obtain ⟨x1, len1, cap1, rfl⟩ := okWide_slice Try.underlying47 (hval 1 47 v1 rfl rfl)
  have k1 := h1
  have lt1 : ∀ x ∈ p1, x.block < W.heap.size := by obtain ⟨m, hm⟩ := k1; exact DataW.trod_lt m _ _ _ hm
  obtain ⟨m1, hm1⟩ := h1
  obtain ⟨s1, A1, _⟩ := bytesS.reads hm1
  clear hA0
  obtain ⟨u0, u1⟩ := bulk_bound (d0 := d0) (d1 := d1) hk
  have t0 : len0 ≤ Rows.uptoBulk d0 := bulk_ens hm0
  have t1 : len1 ≤ Rows.uptoBulk d1 := bulk_len hm1
  have e0 := ens_len (args_of A0)
  have e1 := arg_len (n0 := 0) (w := W) (x := x1) (len := len1) (cap := cap1) A1
  refine (walk (.slice x0 len0 cap0) s0 (.slice x1 len1 cap1) s1 W (args_of A0) (by omega) A1 (by omega)).mono fun e W' ⟨he, bel⟩ => ?_
  subst he
  exact ⟨_, rfl, _, _, _, [], _, [], hW', trodAll_mk1 (shut_bool Try.underlying4 _), (trodAll_cons_mk (Below.trod laidOut (by kernel_rfl) (of_decide_eq_true (by kernel_rfl)) k0 bel lt0) (trodAll_cons_mk (Below.trod laidOut (by kernel_rfl) (of_decide_eq_true (by kernel_rfl)) k1 bel lt1) trodAll_mk0)), rfl, bel.frame _, fun h => by cases h⟩

set_option maxRecDepth 100000 in
theorem lifted (os : Os) (started : os.Started) (H : Type) (enc : TypeId × Value → H) (F : Stop.Interp) :
    ReturnsInHanded {} Try.checked os 4 .any ((Rows.OpenSpec.upto Rows.dirOctetsSpec).pre6 enc Try.prog Try.f4 Rows.dirOctetsUptoRow.domain false) (((Rows.OpenSpec.upto Rows.dirOctetsSpec).at F).post enc Try.prog Try.f4 false true false false) := by
  refine returnsInHanded_of_cond (C := Try.checked) (s := Rows.OpenSpec.upto Rows.dirOctetsSpec) (k := Rows.uptoSmall) rfl own started (by kernel_rfl) Try.func4
    (OpenSpec.witness (enc := enc) (C := Try.checked) (s := Rows.OpenSpec.upto Rows.dirOctetsSpec) (k := Rows.uptoSmall) rfl false ⟨#[], #[.slice none 0 0, .slice none 0 0], []⟩ 8 (by kernel_rfl) (by kernel_rfl) (by kernel_rfl)
      (x := ([.nil, .nil], [], [])) (by kernel_rfl) rfl (by kernel_rfl)) ?_
  intro W base args ds gs before hval hW _ hk _
  exact contract H enc W base args ds gs before hval hW hk

theorem over : Rows.DirOctetsUptoSaid :=
  OpenClaim.holds_of_cond 4 Try.f4 rfl rfl rfl rfl rfl rfl rfl ⟨rfl, rfl, rfl, rfl, rfl⟩ rfl rfl rfl rfl rfl (by kernel_rfl) Try.func4 (by kernel_rfl)
    (of_decide_eq_true (by kernel_rfl)) (by unfold Func.isWrapper; first | (rw [if_pos (by decide +kernel)]; kernel_rfl) | (rw [if_neg (by decide +kernel)]; exact ⟨rfl, rfl⟩))
    (fun os started H enc _ F => lifted os started H enc F)

end Go.Proofs.Ythppbmbhoedphaa.dirOctets

namespace Go.Proofs.Ythppbmbhoedphaa
theorem dirOctetsUpto_holds : Rows.DirOctetsUptoSaid := dirOctets.over
#print axioms dirOctetsUpto_holds
end Go.Proofs.Ythppbmbhoedphaa
