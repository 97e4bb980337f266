/-
  CrcTells, proved: for every octets, uint32 and other octets (as great as the form reads them): the call returns true, and changes nothing that was in memory. No condition of its own.
-/
import Derived.Test.YtcmiaapcnmcpmaaRefOpen
import Derived.Test.YtcmiaapcnmcpmaaArg
namespace Go.Proofs.Ytcmiaapcnmcpmaa.crcTells
open Go.ChangeShapes Go.WideShapes Go.ChangeAt Go.RowKit
set_option linter.unusedVariables false

set_option maxHeartbeats 2000000 in
theorem walk (v : Value) (l : List Int) (c : Nat) (hc : c < 4294967296) (v' : Value) (l' : List Int) (w : World) (hv : Arg w v l) (hs : l.length ≤ 140737488351232) (hv' : Arg w v' l') (hs' : l'.length ≤ 140737488351232) :
    Calls Try.prog 3 #[v, .int .u32 c, v'] w fun e w' => e = .returned (.bool true) ∧ Below w.heap.size w w' := by
  have HV : Hid (Arg w v l) := hv
  have HV' : Hid (Arg w v' l') := hv'
  have HR : Hid (Oct l) := hv.bytes.2.2
  have HR' : Hid (Oct l') := hv'.bytes.2.2
  have HS : Hid (l.length ≤ 140737488351232 ∧ l'.length ≤ 140737488351232) := ⟨hs, hs'⟩
  have HCC : Hid (c < 4294967296) := hc
  obtain ⟨te, hte⟩ : ∃ te, te = oerr l' := ⟨_, rfl⟩
  obtain ⟨to', hto⟩ : ∃ to', to' = oout l' := ⟨_, rfl⟩
  have HTO : Hid (Oct to') := by show Oct to'; rw [hto]; exact oout_oct HR'.out
  have HOP : Hid (∀ w v, Arg w v l' → Calls Try.prog 10 #[v] w fun e w' => ∃ a cap, e = .returned (.tuple #[.slice a to'.length cap, .int .i64 te]) ∧ w'.ownsRow w.heap.size 5 1 (.slice a to'.length cap) to'.length (to'.map (Value.int .u8)) ∧ Below w.heap.size w w') := fun w v h => by
    rw [hte, hto]; exact open_any v l' w h (by have := HS.out.2; omega)
  have HRO : Hid (∀ w v, Arg w v l' → Calls Try.prog 11 #[v] w fun e w' => ∃ a cap, e = .returned (.tuple #[.slice a to'.length cap, .int .i64 te]) ∧ w'.ownsRow w.heap.size 5 1 (.slice a to'.length cap) to'.length (to'.map (Value.int .u8)) ∧ Below w.heap.size w w') := fun w v h => by
    rw [hte, hto]; exact ropen_any v l' w h HS.out.2
  clear hv hv' hs hs' hc hte hto
  go_enter Try.func3, Try.ntmps3
  go_wp2_with fail
  refine (copy_any v l w HV.out (by have := HS.out.1; omega)).mono ?_
  rintro e w1 ⟨⟨v1, rfl, hown1⟩, hb1⟩
  have HA1 : Hid (Arg w1 v1 l) := Arg.own hown1 HR.out
  clear hown1
  go_wp2_with fail
  refine (copy_any v' l' w1 (HV'.out.below hb1) (by have := HS.out.2; omega)).mono ?_
  rintro e w2 ⟨⟨v2, rfl, hown2⟩, hb2⟩
  have HA2 : Hid (Arg w2 v2 l') := Arg.own hown2 HR'.out
  have HA12 : Hid (Arg w2 v1 l) := HA1.out.below hb2
  have hb02 := below_any hb1 hb2
  clear hown2 hb2 hb1 HA1
  go_wp2_with fail
  refine (HOP.out w2 v2 HA2.out).mono ?_
  rintro e w3 ⟨a3, c3, rfl, hown3, hb3⟩
  have HT3 : Hid (Bytes w3 (.slice a3 to'.length c3) to') := Bytes.own hown3 HTO.out
  have HA13 : Hid (Arg w3 v1 l) := HA12.out.below hb3
  have HA23 : Hid (Arg w3 v2 l') := HA2.out.below hb3
  have hb03 := below_any hb02 hb3
  clear hown3 hb3 hb02 HA12 HA2
  go_wp2_with fail
  refine (HRO.out w3 v' (HV'.out.below hb03)).mono ?_
  rintro e w4 ⟨a4, c4, rfl, hown4, hb4⟩
  have HU4 : Hid (Bytes w4 (.slice a4 to'.length c4) to') := Bytes.own hown4 HTO.out
  have HT4 : Hid (Bytes w4 (.slice a3 to'.length c3) to') := HT3.out.below hb4
  have HA14 : Hid (Arg w4 v1 l) := HA13.out.below hb4
  have HA24 : Hid (Arg w4 v2 l') := HA23.out.below hb4
  have hb04 := below_any hb03 hb4
  clear hown4 hb4 hb03 HA13 HA23 HT3 HOP HRO
  go_wp2_with fail
  refine (sum_any v1 l w4 HA14.out).mono ?_
  rintro e w5 ⟨rfl, hb5⟩
  have HU5 := HU4.out.below hb5
  have HT5 := HT4.out.below hb5
  have HA15 := HA14.out.below hb5
  have HA25 := HA24.out.below hb5
  have hb05 := below_any hb04 hb5
  have HX : Hid (Bytes w5 (.slice a4 to'.length c4) to' ∧ Bytes w5 (.slice a3 to'.length c3) to' ∧ Arg w5 v1 l ∧ Arg w5 v2 l' ∧ Arg w5 v l ∧ Arg w5 v' l') := ⟨HU5, HT5, HA15, HA25, HV.out.below hb05, HV'.out.below hb05⟩
  clear hb5 hb04 HA15 HA25 HU5 HT5 HU4 HT4 HA14 HA24
  go_wp2_with fail
  refine (rsum_any v l w5 HX.out.2.2.2.2.1).mono ?_
  rintro e w6 ⟨rfl, rfl⟩
  go_wp2_with fail
  refine (ext_any c HCC.out v1 l w5 HX.out.2.2.1).mono ?_
  rintro e w6 ⟨rfl, hb6⟩
  have hb06 := below_any hb05 hb6
  have HX6 : Hid (Bytes w6 (.slice a4 to'.length c4) to' ∧ Bytes w6 (.slice a3 to'.length c3) to' ∧ Arg w6 v1 l ∧ Arg w6 v2 l' ∧ Arg w6 v l ∧ Arg w6 v' l') := ⟨HX.out.1.below hb6, HX.out.2.1.below hb6, HX.out.2.2.1.below hb6, HX.out.2.2.2.1.below hb6, HX.out.2.2.2.2.1.below hb6, HX.out.2.2.2.2.2.below hb6⟩
  clear hb6 hb05 HX
  go_wp2_with fail
  refine (rext_any c HCC.out v l w6 HX6.out.2.2.2.2.1).mono ?_
  rintro e w7 ⟨rfl, rfl⟩
  go_wp2_with fail
  refine (seal_any v1 l w6 HX6.out.2.2.1 (by have := HS.out.1; omega)).mono ?_
  rintro e w7 ⟨rfl, hown7, hb7⟩
  have HSE : Hid (Bytes w7 (.slice (some ⟨w6.heap.size, 0, none⟩) (l.length + 4) (l.length + 4)) (sealed l)) := Bytes.own (base := w6.heap.size) (by rw [sealed_length]; exact hown7) (sealed_oct l HR.out)
  have hb07 := below_any hb06 hb7
  have HX7 : Hid (Bytes w7 (.slice a4 to'.length c4) to' ∧ Bytes w7 (.slice a3 to'.length c3) to' ∧ Arg w7 v1 l ∧ Arg w7 v2 l' ∧ Arg w7 v l ∧ Arg w7 v' l') := ⟨HX6.out.1.below hb7, HX6.out.2.1.below hb7, HX6.out.2.2.1.below hb7, HX6.out.2.2.2.1.below hb7, HX6.out.2.2.2.2.1.below hb7, HX6.out.2.2.2.2.2.below hb7⟩
  clear hb7 hb06 HX6 hown7
  go_wp2_with fail
  refine (rseal_any v l w7 HX7.out.2.2.2.2.1 HS.out.1).mono ?_
  rintro e w8 ⟨⟨v8, rfl, hown8⟩, hb8⟩
  have HRS : Hid (Bytes w8 v8 (sealed l)) := Bytes.own (base := w7.heap.size) (by rw [sealed_length]; exact hown8) (sealed_oct l HR.out)
  have HSE8 : Hid (Bytes w8 (.slice (some ⟨w6.heap.size, 0, none⟩) (l.length + 4) (l.length + 4)) (sealed l)) := HSE.out.below hb8
  have hb08 := below_any hb07 hb8
  have HX8 : Hid (Bytes w8 (.slice a4 to'.length c4) to' ∧ Bytes w8 (.slice a3 to'.length c3) to' ∧ Bytes w8 v1 l ∧ Bytes w8 v2 l' ∧ Bytes w8 v l ∧ Bytes w8 v' l') := ⟨HX7.out.1.below hb8, HX7.out.2.1.below hb8, (HX7.out.2.2.1.below hb8).bytes, (HX7.out.2.2.2.1.below hb8).bytes, (HX7.out.2.2.2.2.1.below hb8).bytes, (HX7.out.2.2.2.2.2.below hb8).bytes⟩
  clear hb8 hb07 HX7 hown8 HSE
  go_wp2_with fail
  refine (same_true _ _ (sealed l) w8 HSE8.out HRS.out).mono ?_
  rintro e w9 ⟨rfl, q1, rfl⟩
  go_wp2_with fail
  refine (same_true _ _ to' _ (HX8.out.2.1.drewN q1) (HX8.out.1.drewN q1)).mono ?_
  rintro e w9 ⟨rfl, q2, rfl⟩
  go_wp2_with (go_at_call 19; refine (num_any _ _).mono ?_; rintro e w3 ⟨rfl, rfl⟩)
  refine (same_true _ _ l _ (HX8.out.2.2.1.drewN (q1 + q2)) (HX8.out.2.2.2.2.1.drewN (q1 + q2))).mono ?_
  rintro e w9 ⟨rfl, q3, rfl⟩
  go_wp2_with fail
  refine (same_true _ _ l' _ (HX8.out.2.2.2.1.drewN (q1 + q2 + q3)) (HX8.out.2.2.2.2.2.drewN (q1 + q2 + q3))).mono ?_
  rintro e w9 ⟨rfl, q4, rfl⟩
  go_wp2_with fail
  refine (alive_any _).mono ?_
  rintro e w10 ⟨rfl, hb10⟩
  have hb := below_any (below_drewN hb08 (q1 + q2 + q3 + q4)) hb10
  clear hb10
  go_wp2
  go_ret
  exact ⟨rfl, hb⟩

set_option maxRecDepth 100000 in
theorem lifted (os : Os) (started : os.Started) (H : Type) (enc : TypeId × Value → H) :
    ReturnsInHanded {} Try.checked os 3 .any (Rows.crcTellsSpec.pre6 enc Try.prog Try.f3 Rows.crcTellsRow.domain false) (Rows.crcTellsSpec.post enc Try.prog Try.f3 false true false false) := by
  refine returnsInHanded_of_change_sized (C := Try.checked) own started (by kernel_rfl) Try.func3
    (ChangeSpec.witness6 (enc := enc) (C := Try.checked) false ⟨#[], #[.slice none 0 0, .int .u32 0, .slice none 0 0], []⟩ 8 (by kernel_rfl) (by kernel_rfl) (by kernel_rfl) (by kernel_rfl)) ?_
  intro W base args ds gs before hval0 hW hcnd hsz0 _
  have hval : ∀ (j : Nat) t v, Try.f3.params[j]? = some t → args[j]? = some v → Value.okWide Try.prog W .any base t v := hval0
  have hW' := hW
  obtain ⟨p, q, hA0, hV, rfl, hfz, hnd⟩ := hW
  have hA : DataW.TrodAll enc Try.prog W 0 (fun _ => true) true Try.f3.params.toList args.toList ds p := hA0
  have hsz : (DataW.weightsEach Try.prog (Try.f3.params.toList ++ Rows.crcTellsSpec.plain.varTypes Try.prog) (ds ++ gs)).all (· ≤ reachBytes) = true := hsz0
  clear hsz0
  rw [Try.params3] at hA hval hsz
  obtain ⟨v0, vs0, d0, ds0, p0, q0, hargs, rfl, rfl, h0, r0⟩ := trodAll_cons hA
  obtain ⟨v1, vs1, d1, ds1, p1, q1, rfl, rfl, rfl, h1, r1⟩ := trodAll_cons r0
  obtain ⟨v2, vs2, d2, ds2, p2, q2, rfl, rfl, rfl, h2, r2⟩ := trodAll_cons r1
  obtain ⟨rfl, rfl, rfl⟩ := trodAll_nil r2
  obtain rfl : args = #[v0, v1, v2] := by cases args; simp_all
  obtain ⟨rfl, rfl⟩ := trodVars_none hV
  obtain ⟨a0, len0, cap0, rfl⟩ := okWide_slice Try.underlying22 (hval 0 22 v0 rfl rfl)
  have k0 := h0
  have lt0 : ∀ x ∈ p0, x.block < W.heap.size := by obtain ⟨m, hm⟩ := k0; exact DataW.trod_lt m _ _ _ hm
  obtain ⟨l0, A0, D0⟩ := arg_of h0
  have s0 := arg_len hsz (j := 0) rfl rfl D0
  obtain ⟨a1, rfl, rfl, rfl, w1⟩ := open_int Try.underlying23 (hval 1 23 v1 rfl rfl) h1
  have b1 := bounds_u32 w1
  obtain ⟨a2, len2, cap2, rfl⟩ := okWide_slice Try.underlying22 (hval 2 22 v2 rfl rfl)
  have k2 := h2
  have lt2 : ∀ x ∈ p2, x.block < W.heap.size := by obtain ⟨m, hm⟩ := k2; exact DataW.trod_lt m _ _ _ hm
  obtain ⟨l2, A2, D2⟩ := arg_of h2
  have s2 := arg_len hsz (j := 2) rfl rfl D2
  clear hA0 hval0
  obtain ⟨n1, rfl⟩ := Int.eq_ofNat_of_zero_le b1.1
  refine (walk _ l0 n1 (by omega) _ l2 W A0 s0 A2 s2).mono fun e W' ⟨he, bel⟩ => ?_
  subst he
  exact ⟨_, rfl, _, _, _, [], _, [], hW', trodAll_mk1 (shut_bool Try.underlying4 _), (trodAll_cons_mk (Below.trod laidOut (by kernel_rfl) (of_decide_eq_true (by kernel_rfl)) k0 bel lt0) (trodAll_cons_mk (shut_int Try.underlying23 w1) (trodAll_cons_mk (Below.trod laidOut (by kernel_rfl) (of_decide_eq_true (by kernel_rfl)) k2 bel lt2) trodAll_mk0))), rfl, bel.frame _, fun h => by cases h⟩

theorem over : Rows.crcTellsRow.holds Try.pinned (OpenSpec.ofChange Rows.crcTellsSpec) :=
  OpenClaim.holds_of_wide 3 Try.f3 rfl rfl rfl rfl rfl rfl rfl ⟨rfl, rfl, rfl, rfl, rfl⟩ rfl rfl rfl rfl rfl (by kernel_rfl) Try.func3 (by kernel_rfl)
    (of_decide_eq_true (by kernel_rfl)) (by unfold Func.isWrapper; first | (rw [if_pos (by decide +kernel)]; kernel_rfl) | (rw [if_neg (by decide +kernel)]; exact ⟨rfl, rfl⟩))
    (fun os started H enc _ => lifted os started H enc)

end Go.Proofs.Ytcmiaapcnmcpmaa.crcTells

namespace Go.Proofs.Ytcmiaapcnmcpmaa
theorem crcTells_holds : Rows.CrcTellsSaid := crcTells.over
#print axioms crcTells_holds
end Go.Proofs.Ytcmiaapcnmcpmaa
