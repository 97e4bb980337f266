/-
  CrcRest, proved: for every octets (as great as the form reads them): the call returns true, and changes nothing that was in memory. No condition of its own.
-/
import Derived.Test.YtcmiaapcnmcpmaaSeal
import Derived.Test.YtcmiaapcnmcpmaaArg
namespace Go.Proofs.Ytcmiaapcnmcpmaa.crcRest
open Go.ChangeShapes Go.WideShapes Go.ChangeAt Go.RowKit
set_option linter.unusedVariables false

theorem one_rest (l : List Int) (h : Oct l) : sum (sealed l) = 558161692 := by
  have := (rest_of l (low (sum l)) h (low_length _) (low_oct _)).2 rfl
  have e : sum (sealed l) = turned (upd full (sealed l)) := rfl
  rw [e, show upd full (sealed l) = rest from this]
  exact rest_eq

set_option maxHeartbeats 1000000 in
theorem walk (v : Value) (l : List Int) (w : World) (hv : Arg w v l) (hs : l.length ≤ 140737488355328) :
    Calls Try.prog 7 #[v] w fun e w' => e = .returned (.bool true) ∧ Below w.heap.size w w' := by
  have HV : Hid (Arg w v l) := hv
  have HR : Hid (Oct l) := hv.bytes.2.2
  clear hv
  go_enter Try.func7, Try.ntmps7
  go_wp2_with fail
  refine (seal_any v l w HV.out hs).mono ?_
  rintro e w1 ⟨rfl, hown1, hb1⟩
  have HA : Hid (Arg w1 (.slice (some ⟨w.heap.size, 0, none⟩) (l.length + 4) (l.length + 4)) (sealed l)) := Arg.own (base := w.heap.size) (by rw [sealed_length]; exact hown1) (sealed_oct l HR.out)
  have HS : Hid (sum (sealed l) = 558161692) := one_rest l HR.out
  clear hown1
  go_wp2_with fail
  refine (sum_any _ _ w1 HA.out).mono ?_
  rw [HS.out]
  rintro e w2 ⟨rfl, hb2⟩
  go_wp2_with (go_at_call 20; refine (alive_any _).mono ?_; rintro e w3 ⟨rfl, hb3⟩)
  go_ret
  exact ⟨rfl, below_any (below_any hb1 hb2) hb3⟩

set_option maxRecDepth 100000 in
theorem lifted (os : Os) (started : os.Started) (H : Type) (enc : TypeId × Value → H) :
    ReturnsInHanded {} Try.checked os 7 .any (Rows.crcRestSpec.pre6 enc Try.prog Try.f7 Rows.crcRestRow.domain false) (Rows.crcRestSpec.post enc Try.prog Try.f7 false true false false) := by
  refine returnsInHanded_of_change_sized (C := Try.checked) own started (by kernel_rfl) Try.func7
    (ChangeSpec.witness6 (enc := enc) (C := Try.checked) false ⟨#[], #[.slice none 0 0], []⟩ 8 (by kernel_rfl) (by kernel_rfl) (by kernel_rfl) (by kernel_rfl)) ?_
  intro W base args ds gs before hval0 hW hcnd hsz0 _
  have hval : ∀ (j : Nat) t v, Try.f7.params[j]? = some t → args[j]? = some v → Value.okWide Try.prog W .any base t v := hval0
  have hW' := hW
  obtain ⟨p, q, hA0, hV, rfl, hfz, hnd⟩ := hW
  have hA : DataW.TrodAll enc Try.prog W 0 (fun _ => true) true Try.f7.params.toList args.toList ds p := hA0
  have hsz : (DataW.weightsEach Try.prog (Try.f7.params.toList ++ Rows.crcRestSpec.plain.varTypes Try.prog) (ds ++ gs)).all (· ≤ reachBytes) = true := hsz0
  clear hsz0
  rw [Try.params7] at hA hval hsz
  obtain ⟨v0, vs0, d0, ds0, p0, q0, hargs, rfl, rfl, h0, r0⟩ := trodAll_cons hA
  obtain ⟨rfl, rfl, rfl⟩ := trodAll_nil r0
  obtain rfl : args = #[v0] := by cases args; simp_all
  obtain ⟨rfl, rfl⟩ := trodVars_none hV
  obtain ⟨a0, len0, cap0, rfl⟩ := okWide_slice Try.underlying22 (hval 0 22 v0 rfl rfl)
  have k0 := h0
  have lt0 : ∀ x ∈ p0, x.block < W.heap.size := by obtain ⟨m, hm⟩ := k0; exact DataW.trod_lt m _ _ _ hm
  obtain ⟨l0, A0, D0⟩ := arg_of h0
  have s0 := arg_len hsz (j := 0) rfl rfl D0
  clear hA0 hval0
  refine (walk _ l0 W A0 (by omega)).mono fun e W' ⟨he, bel⟩ => ?_
  subst he
  exact ⟨_, rfl, _, _, _, [], _, [], hW', trodAll_mk1 (shut_bool Try.underlying4 _), (trodAll_cons_mk (Below.trod laidOut (by kernel_rfl) (of_decide_eq_true (by kernel_rfl)) k0 bel lt0) trodAll_mk0), rfl, bel.frame _, fun h => by cases h⟩

theorem over : Rows.crcRestRow.holds Try.pinned (OpenSpec.ofChange Rows.crcRestSpec) :=
  OpenClaim.holds_of_wide 7 Try.f7 rfl rfl rfl rfl rfl rfl rfl ⟨rfl, rfl, rfl, rfl, rfl⟩ rfl rfl rfl rfl rfl (by kernel_rfl) Try.func7 (by kernel_rfl)
    (of_decide_eq_true (by kernel_rfl)) (by unfold Func.isWrapper; first | (rw [if_pos (by decide +kernel)]; kernel_rfl) | (rw [if_neg (by decide +kernel)]; exact ⟨rfl, rfl⟩))
    (fun os started H enc _ => lifted os started H enc)

end Go.Proofs.Ytcmiaapcnmcpmaa.crcRest

namespace Go.Proofs.Ytcmiaapcnmcpmaa
theorem crcRest_holds : Rows.CrcRestSaid := crcRest.over
#print axioms crcRest_holds
end Go.Proofs.Ytcmiaapcnmcpmaa
