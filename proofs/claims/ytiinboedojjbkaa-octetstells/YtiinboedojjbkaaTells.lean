/-
  OctetsTells, proved: for every uint64, int and octets (as great as the form reads them): the call returns true, and changes nothing that was in memory. No condition of its own.
-/
import Derived.Test.YtiinboedojjbkaaRefPut
import Derived.Test.YtiinboedojjbkaaArg
namespace Go.Proofs.Ytiinboedojjbkaa.octetsTells
open Go.ChangeShapes Go.WideShapes Go.ChangeAt Go.RowKit
open Go.ChangeMaps (open_string shut_string)
set_option linter.unusedVariables false

set_option maxHeartbeats 1000000 in
theorem walk (n s : Int) (v : Value) (l : List Int) (w : World) (h0 : 0 ≤ n) (h1 : n ≤ 18446744073709551615) (hv : Arg w v l) (hs : l.length ≤ 140737488355328) :
    Calls Try.prog 3 #[.int .u64 n, .int .i64 s, v] w fun e w' => e = .returned (.bool true) ∧ Below w.heap.size w w' := by
  have HV : Hid (Arg w v l) := hv
  clear hv
  go_enter Try.func3, Try.ntmps3
  go_wp2_with fail
  refine (copy_any v l w HV.out hs).mono ?_
  rintro e w1 ⟨⟨v1, rfl, hown1⟩, hb1⟩
  have HR : Hid (∀ x ∈ l, 0 ≤ x ∧ x ≤ 255) := HV.out.bytes.2.2
  have HA1 : Hid (Arg w1 v1 l) := Arg.own hown1 HR.out
  clear hown1
  go_wp2_with fail
  refine (put_all n s w1 h0 h1).mono ?_
  rintro e w2 ⟨a2, c2, rfl, hown2, hb2⟩
  have HB2 : Hid (Bytes w2 (.slice a2 (pout n s).length c2) (pout n s)) := Bytes.own hown2 (pout_range _ _)
  have hb02 := below_any hb1 hb2
  have HA2 : Hid (Arg w2 v1 l) := HA1.out.below hb2
  clear hown2
  go_wp2_with fail
  refine (rput_all n s w2 h0 h1).mono ?_
  rintro e w3 ⟨a3, c3, rfl, hown3, hb3⟩
  have HX : Hid (Bytes w3 (.slice a2 (pout n s).length c2) (pout n s)) := HB2.out.below hb3
  have HY : Hid (Bytes w3 (.slice a3 (pout n s).length c3) (pout n s)) := Bytes.own hown3 (pout_range _ _)
  have hb := below_any hb02 hb3
  have HA3 : Hid (Arg w3 v1 l) := HA2.out.below hb3
  have HV3 : Hid (Arg w3 v l) := HV.out.below hb
  clear hown3 hb1 hb2 hb3 hb02
  go_wp2_with (first
    | (go_at_call 12; refine (get_any v1 l w3 HA3.out).mono ?_; rintro e w4 ⟨rfl, rfl⟩)
    | (go_at_call 13; refine (rget_any v l w3 HV3.out).mono ?_; rintro e w4 ⟨rfl, rfl⟩)
    | (go_at_call 14; refine (need_any n w3 h0 h1).mono ?_; rintro e w4 ⟨rfl, rfl⟩)
    | (go_at_call 15; refine (rneed_any n w3 h0 h1).mono ?_; rintro e w4 ⟨rfl, rfl⟩))
  refine (same_true _ _ _ w3 HX.out HY.out).mono ?_
  rintro e w4 ⟨rfl, q, rfl⟩
  go_wp2_with (go_at_call 17; refine (num_any _ _).mono ?_; rintro e w3 ⟨rfl, rfl⟩)
  refine (same_true _ _ l _ (HA3.out.bytes.drewN q) (HV3.out.bytes.drewN q)).mono ?_
  rintro e w5 ⟨rfl, q', rfl⟩
  go_wp2_with (go_at_call 18; refine (alive_any _).mono ?_; rintro e w6 ⟨rfl, hb6⟩)
  go_ret
  exact ⟨rfl, below_any (below_drewN hb (q + q')) hb6⟩

set_option maxRecDepth 100000 in
theorem lifted (os : Os) (started : os.Started) (H : Type) (enc : TypeId × Value → H) :
    ReturnsInHanded {} Try.checked os 3 .any (Rows.octetsTellsSpec.pre6 enc Try.prog Try.f3 Rows.octetsTellsRow.domain false) (Rows.octetsTellsSpec.post enc Try.prog Try.f3 false true false false) := by
  refine returnsInHanded_of_change_sized (C := Try.checked) own started (by kernel_rfl) Try.func3
    (ChangeSpec.witness6 (enc := enc) (C := Try.checked) false ⟨#[], #[.int .u64 0, .int .i64 0, .slice none 0 0], []⟩ 8 (by kernel_rfl) (by kernel_rfl) (by kernel_rfl) (by kernel_rfl)) ?_
  intro W base args ds gs before hval0 hW hcnd hsz0 _
  have hval : ∀ (j : Nat) t v, Try.f3.params[j]? = some t → args[j]? = some v → Value.okWide Try.prog W .any base t v := hval0
  have hW' := hW
  obtain ⟨p, q, hA0, hV, rfl, hfz, hnd⟩ := hW
  have hA : DataW.TrodAll enc Try.prog W 0 (fun _ => true) true Try.f3.params.toList args.toList ds p := hA0
  have hsz : (DataW.weightsEach Try.prog (Try.f3.params.toList ++ Rows.octetsTellsSpec.plain.varTypes Try.prog) (ds ++ gs)).all (· ≤ reachBytes) = true := hsz0
  clear hsz0
  rw [Try.params3] at hA hval hsz
  obtain ⟨v0, vs0, d0, ds0, p0, q0, hargs, rfl, rfl, h0, r0⟩ := trodAll_cons hA
  obtain ⟨v1, vs1, d1, ds1, p1, q1, rfl, rfl, rfl, h1, r1⟩ := trodAll_cons r0
  obtain ⟨v2, vs2, d2, ds2, p2, q2, rfl, rfl, rfl, h2, r2⟩ := trodAll_cons r1
  obtain ⟨rfl, rfl, rfl⟩ := trodAll_nil r2
  obtain rfl : args = #[v0, v1, v2] := by cases args; simp_all
  obtain ⟨rfl, rfl⟩ := trodVars_none hV
  obtain ⟨a0, rfl, rfl, rfl, w0⟩ := open_int Try.underlying22 (hval 0 22 v0 rfl rfl) h0
  obtain ⟨a1, rfl, rfl, rfl, w1⟩ := open_int Try.underlying3 (hval 1 3 v1 rfl rfl) h1
  obtain ⟨a2, len2, cap2, rfl⟩ := okWide_slice Try.underlying23 (hval 2 23 v2 rfl rfl)
  have k2 := h2
  have lt2 : ∀ x ∈ p2, x.block < W.heap.size := by obtain ⟨m, hm⟩ := k2; exact DataW.trod_lt m _ _ _ hm
  obtain ⟨l2, A2, D2⟩ := arg_of h2
  have s2 := arg_len hsz (j := 2) rfl rfl D2
  have b0 := bounds_u64 w0
  clear hA0 hval0
  refine (walk a0 a1 _ l2 W b0.1 b0.2 A2 (by omega)).mono fun e W' ⟨he, bel⟩ => ?_
  subst he
  exact ⟨_, rfl, _, _, _, [], _, [], hW', trodAll_mk1 (shut_bool Try.underlying4 _), (trodAll_cons_mk (shut_int Try.underlying22 w0) (trodAll_cons_mk (shut_int Try.underlying3 w1) (trodAll_cons_mk (Below.trod laidOut (by kernel_rfl) (of_decide_eq_true (by kernel_rfl)) k2 bel lt2) trodAll_mk0))), rfl, bel.frame _, fun h => by cases h⟩

theorem over : Rows.octetsTellsRow.holds Try.pinned (OpenSpec.ofChange Rows.octetsTellsSpec) :=
  OpenClaim.holds_of_wide 3 Try.f3 rfl rfl rfl rfl rfl rfl rfl ⟨rfl, rfl, rfl, rfl, rfl⟩ rfl rfl rfl rfl rfl (by kernel_rfl) Try.func3 (by kernel_rfl)
    (of_decide_eq_true (by kernel_rfl)) (by unfold Func.isWrapper; first | (rw [if_pos (by decide +kernel)]; kernel_rfl) | (rw [if_neg (by decide +kernel)]; exact ⟨rfl, rfl⟩))
    (fun os started H enc _ => lifted os started H enc)

end Go.Proofs.Ytiinboedojjbkaa.octetsTells

namespace Go.Proofs.Ytiinboedojjbkaa
theorem octetsTells_holds : Rows.OctetsTellsSaid := octetsTells.over
#print axioms octetsTells_holds
end Go.Proofs.Ytiinboedojjbkaa
