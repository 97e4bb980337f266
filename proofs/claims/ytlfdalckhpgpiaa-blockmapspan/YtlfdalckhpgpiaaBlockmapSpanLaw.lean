/-
  BlockmapSpan: for every two numbers the law answers true: octets lie in the blocks that Span tells, the first and the last one, and none else. No condition.
-/
import Derived.Test.YtlfdalckhpgpiaaAlive
import Derived.Test.YtlfdalckhpgpiaaFrame
namespace Go.Proofs.Ytlfdalckhpgpiaa.blockmapSpan
open Go.ChangeShapes Go.WideShapes Go.ChangeAt Go.RowKit

set_option maxRecDepth 100000 in
set_option maxHeartbeats 1000000 in
theorem walk (o n : Int) (w : World) (ho : I64 o) (hn : I64 n) : Calls Try.prog 5 #[.int .i64 o, .int .i64 n] w fun e w' => e = .returned (.bool true) ∧ Below w.heap.size w w' := by
  have HA := alive_any w
  have HS := fun V => span_any o n V ho hn
  unfold I64 at ho hn
  by_cases h0 : o < 0
  · obtain ⟨e1, e2, e3⟩ := spn_low (n := n) (.inl h0)
    rw [e1, e2, e3] at HS
    go_enter Try.func5, Try.ntmps5
    go_wp2_with fail
    refine HA.mono ?_
    rintro e w1 ⟨rfl, hb⟩
    go_wp2_with fail
    refine (HS _).mono ?_
    rintro e w2 ⟨rfl, rfl⟩
    go_wp2_with (go_at_call 18; refine (num_any _ _).mono ?_; rintro e w3 ⟨rfl, rfl⟩)
    go_ret
    exact ⟨rfl, hb⟩
  by_cases h0' : n < 0
  · obtain ⟨e1, e2, e3⟩ := spn_low (o := o) (.inr h0')
    rw [e1, e2, e3] at HS
    go_enter Try.func5, Try.ntmps5
    go_wp2_with fail
    refine HA.mono ?_
    rintro e w1 ⟨rfl, hb⟩
    go_wp2_with fail
    refine (HS _).mono ?_
    rintro e w2 ⟨rfl, rfl⟩
    go_wp2_with (go_at_call 18; refine (num_any _ _).mono ?_; rintro e w3 ⟨rfl, rfl⟩)
    go_ret
    exact ⟨rfl, hb⟩
  by_cases h1 : 2432 < o
  · obtain ⟨e1, e2, e3⟩ := spn_high (o := o) (n := n) (by omega) (by omega)
    rw [e1, e2, e3] at HS
    go_enter Try.func5, Try.ntmps5
    go_wp2_with fail
    refine HA.mono ?_
    rintro e w1 ⟨rfl, hb⟩
    go_wp2_with fail
    refine (HS _).mono ?_
    rintro e w2 ⟨rfl, rfl⟩
    go_wp2_with (go_at_call 18; refine (num_any _ _).mono ?_; rintro e w3 ⟨rfl, rfl⟩)
    go_ret
    exact ⟨rfl, hb⟩
  by_cases h2 : 2432 - o < n
  · obtain ⟨e1, e2, e3⟩ := spn_high (o := o) (n := n) (by omega) (by omega)
    rw [e1, e2, e3] at HS
    go_enter Try.func5, Try.ntmps5
    go_wp2_with fail
    refine HA.mono ?_
    rintro e w1 ⟨rfl, hb⟩
    go_wp2_with fail
    refine (HS _).mono ?_
    rintro e w2 ⟨rfl, rfl⟩
    go_wp2_with (go_at_call 18; refine (num_any _ _).mono ?_; rintro e w3 ⟨rfl, rfl⟩)
    go_ret
    exact ⟨rfl, hb⟩
  obtain ⟨e1, e2, e3, e4⟩ := spn_in (o := o) (n := n) (by omega) (by omega)
  rw [e1, e4] at HS
  by_cases hn0 : n = 0
  · rw [e2 hn0] at HS
    subst hn0
    clear e1 e2 e3 e4
    go_enter Try.func5, Try.ntmps5
    go_wp2_with fail
    refine HA.mono ?_
    rintro e w1 ⟨rfl, hb⟩
    go_wp2_with fail
    refine (HS _).mono ?_
    rintro e w2 ⟨rfl, rfl⟩
    go_wp2_with (go_at_call 18; refine (num_any _ _).mono ?_; rintro e w3 ⟨rfl, rfl⟩)
    go_ret
    exact ⟨rfl, hb⟩
  · rw [e3 hn0] at HS
    have hk : (o + n - 1) / 32 = o / 32 + ((o + n + 31) / 32 - o / 32) - 1 := by omega
    have hb1 : 0 ≤ o / 32 ∧ o / 32 ≤ 76 ∧ 0 ≤ (o + n + 31) / 32 - o / 32 ∧ (o + n + 31) / 32 - o / 32 ≤ 100 := by omega
    obtain ⟨k, hkk⟩ : ∃ k, k = (o + n + 31) / 32 - o / 32 := ⟨_, rfl⟩
    rw [← hkk] at HS hk hb1
    clear e1 e2 e3 e4 hkk
    go_enter Try.func5, Try.ntmps5
    go_wp2_with fail
    refine HA.mono ?_
    rintro e w1 ⟨rfl, hb⟩
    go_wp2_with fail
    refine (HS _).mono ?_
    rintro e w2 ⟨rfl, rfl⟩
    go_wp2_with (go_at_call 18; refine (num_any _ _).mono ?_; rintro e w3 ⟨rfl, rfl⟩)
    go_ret
    exact ⟨rfl, hb⟩

set_option maxRecDepth 100000 in
theorem lifted (os : Os) (started : os.Started) (H : Type) (enc : TypeId × Value → H) :
    ReturnsInHanded {} Try.checked os 5 .any (Rows.blockmapSpanSpec.pre6 enc Try.prog Try.f5 Rows.blockmapSpanRow.domain false) (Rows.blockmapSpanSpec.post enc Try.prog Try.f5 false true false false) := by
  refine returnsInHanded_of_change_sized (C := Try.checked) own started (by kernel_rfl) Try.func5
    (ChangeSpec.witness6 (enc := enc) (C := Try.checked) false ⟨#[], #[.int .i64 0, .int .i64 0], []⟩ 8 (by kernel_rfl) (by kernel_rfl) (by kernel_rfl) (by kernel_rfl)) ?_
  intro W base args ds gs before hval0 hW hcnd hsz0 _
  have hval : ∀ (j : Nat) t v, Try.f5.params[j]? = some t → args[j]? = some v → Value.okWide Try.prog W .any base t v := hval0
  have hW' := hW
  obtain ⟨p, q, hA0, hV, rfl, hfz, hnd⟩ := hW
  have hA : DataW.TrodAll enc Try.prog W 0 (fun _ => true) true Try.f5.params.toList args.toList ds p := hA0
  have hsz : (DataW.weightsEach Try.prog (Try.f5.params.toList ++ Rows.blockmapSpanSpec.plain.varTypes Try.prog) (ds ++ gs)).all (· ≤ reachBytes) = true := hsz0
  clear hsz0
  rw [Try.params5] at hA hval hsz
  obtain ⟨v0, vs0, d0, ds0, p0, q0, hargs, rfl, rfl, h0, r0⟩ := trodAll_cons hA
  obtain ⟨v1, vs1, d1, ds1, p1, q1, rfl, rfl, rfl, h1, r1⟩ := trodAll_cons r0
  obtain ⟨rfl, rfl, rfl⟩ := trodAll_nil r1
  obtain rfl : args = #[v0, v1] := by cases args; simp_all
  obtain ⟨rfl, rfl⟩ := trodVars_none hV
  obtain ⟨a0, rfl, rfl, rfl, w0⟩ := open_int Try.underlying3 (hval 0 3 v0 rfl rfl) h0
  have b0 := bounds_i64 w0
  obtain ⟨a1, rfl, rfl, rfl, w1⟩ := open_int Try.underlying3 (hval 1 3 v1 rfl rfl) h1
  have b1 := bounds_i64 w1
  clear hA0 hval0
  refine (walk a0 a1 W b0 b1).mono fun e W' ⟨he, bel⟩ => ?_
  subst he
  exact ⟨_, rfl, _, _, _, [], _, [], hW', trodAll_mk1 (shut_bool Try.underlying4 _), (trodAll_cons_mk (shut_int Try.underlying3 w0) (trodAll_cons_mk (shut_int Try.underlying3 w1) trodAll_mk0)), rfl, bel.frame _, fun h => by cases h⟩

theorem over : Rows.blockmapSpanRow.holds Try.pinned (OpenSpec.ofChange Rows.blockmapSpanSpec) :=
  OpenClaim.holds_of_wide 5 Try.f5 rfl rfl rfl rfl rfl rfl rfl ⟨rfl, rfl, rfl, rfl, rfl⟩ rfl rfl rfl rfl rfl (by kernel_rfl) Try.func5 (by kernel_rfl)
    (of_decide_eq_true (by kernel_rfl)) (by unfold Func.isWrapper; first | (rw [if_pos (by decide +kernel)]; kernel_rfl) | (rw [if_neg (by decide +kernel)]; exact ⟨rfl, rfl⟩))
    (fun os started H enc _ => lifted os started H enc)

end Go.Proofs.Ytlfdalckhpgpiaa.blockmapSpan

namespace Go.Proofs.Ytlfdalckhpgpiaa
theorem blockmapSpan_holds : Rows.BlockmapSpanSaid := blockmapSpan.over
#print axioms blockmapSpan_holds
end Go.Proofs.Ytlfdalckhpgpiaa
