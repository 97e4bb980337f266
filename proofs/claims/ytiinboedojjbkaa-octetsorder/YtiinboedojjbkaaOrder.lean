/-
  OctetsOrder, proved: for every two uint64 and every int: the call returns true, and changes nothing that was in memory. No condition.
-/
import Derived.Test.YtiinboedojjbkaaPutAll
import Derived.Test.YtiinboedojjbkaaOrderMath
import Derived.OpenShut
import Derived.ShutString
namespace Go.Proofs.Ytiinboedojjbkaa.octetsOrder
open Go.ChangeShapes Go.WideShapes Go.ChangeAt Go.RowKit
open Go.ChangeMaps (open_string shut_string)
set_option linter.unusedVariables false

theorem own : ownKnob Try.prog.godebug = none := by kernel_rfl

set_option maxHeartbeats 1000000 in
theorem walk_no (a b s ea eb : Int) (w : World) (ha0 : 0 ≤ a) (ha1 : a ≤ 18446744073709551615) (hb0 : 0 ≤ b) (hb1 : b ≤ 18446744073709551615)
    (h1 : perr a s = ea) (h2 : perr b s = eb) (h3 : (ea == 0) = false) (l1 : (pout a s).length = 0) :
    Calls Try.prog 6 #[.int .u64 a, .int .u64 b, .int .i64 s] w fun e w' => e = .returned (.bool true) ∧ Below w.heap.size w w' := by
  go_enter Try.func6, Try.ntmps6
  go_wp2_with (first
    | (go_at_call 18; refine (alive_any _).mono ?_; rintro e w1 ⟨rfl, hb⟩)
    | (go_at_call 10; refine (put_all _ _ _ (by assumption) (by assumption)).mono ?_; rintro e w2 ⟨ad, cap, rfl, hB2, hb2⟩; have hb := below_any hb hb2)
    | (go_at_call 17; refine (num_any _ _).mono ?_; rintro e w3 ⟨rfl, rfl⟩))
  go_ret
  exact ⟨rfl, hb⟩

set_option maxHeartbeats 1000000 in
theorem walk_half (a b s eb : Int) (w : World) (ha0 : 0 ≤ a) (ha1 : a ≤ 18446744073709551615) (hb0 : 0 ≤ b) (hb1 : b ≤ 18446744073709551615)
    (h1 : perr a s = 0) (h2 : perr b s = eb) (h3 : (eb == 0) = false) (l2 : (pout b s).length = 0) :
    Calls Try.prog 6 #[.int .u64 a, .int .u64 b, .int .i64 s] w fun e w' => e = .returned (.bool true) ∧ Below w.heap.size w w' := by
  go_enter Try.func6, Try.ntmps6
  go_wp2_with (first
    | (go_at_call 18; refine (alive_any _).mono ?_; rintro e w1 ⟨rfl, hb⟩)
    | (go_at_call 10; refine (put_all _ _ _ (by assumption) (by assumption)).mono ?_; rintro e w2 ⟨ad, cap, rfl, hB2, hb2⟩; have hb := below_any hb hb2)
    | (go_at_call 17; refine (num_any _ _).mono ?_; rintro e w3 ⟨rfl, rfl⟩))
  all_goals (go_ret; exact ⟨rfl, hb⟩)

set_option maxHeartbeats 1000000 in
theorem walk_ok (a b s : Int) (w : World) (ha0 : 0 ≤ a) (ha1 : a ≤ 18446744073709551615) (hb0 : 0 ≤ b) (hb1 : b ≤ 18446744073709551615)
    (h1 : perr a s = 0) (h2 : perr b s = 0) (hl : Op.bytesLess (strOfNums (pout a s)).toList (strOfNums (pout b s)).toList = decide (a < b)) :
    Calls Try.prog 6 #[.int .u64 a, .int .u64 b, .int .i64 s] w fun e w' => e = .returned (.bool true) ∧ Below w.heap.size w w' := by
  go_enter Try.func6, Try.ntmps6
  go_wp2_with (go_at_call 18; refine (alive_any _).mono ?_; rintro e w1 ⟨rfl, hb⟩)
  refine (put_all _ _ _ ha0 ha1).mono ?_
  rintro e w2 ⟨ad, cap, rfl, hB2, hb2⟩
  go_wp2_with fail
  refine (put_all _ _ _ hb0 hb1).mono ?_
  rintro e w3 ⟨ad', cap', rfl, hB3, hb3⟩
  have hc1 := conv_bytes ((Bytes.own hB2 (pout_range _ _)).below hb3)
  have hc2 := conv_bytes (Bytes.own hB3 (pout_range _ _))
  have hb := below_any (below_any hb hb2) hb3
  clear hB2 hB3 hb2 hb3
  go_wp2_with (go_at_call 17; refine (num_any _ _).mono ?_; rintro e w3 ⟨rfl, rfl⟩)
  go_ret
  exact ⟨rfl, hb⟩

theorem walk (a b s : Int) (w : World) (ha0 : 0 ≤ a) (ha1 : a ≤ 18446744073709551615) (hb0 : 0 ≤ b) (hb1 : b ≤ 18446744073709551615) :
    Calls Try.prog 6 #[.int .u64 a, .int .u64 b, .int .i64 s] w fun e w' => e = .returned (.bool true) ∧ Below w.heap.size w w' := by
  by_cases hr : s < 0 ∨ 64 < s
  · exact walk_no a b s 4 4 w ha0 ha1 hb0 hb1 (by unfold perr; rw [if_pos hr]) (by unfold perr; rw [if_pos hr]) rfl (by unfold pout; rw [if_pos hr]; rfl)
  · by_cases hna : s < need a.toNat
    · exact walk_no a b s 107 _ w ha0 ha1 hb0 hb1 (by unfold perr; rw [if_neg hr, if_pos hna]) rfl rfl (by unfold pout; rw [if_neg hr, if_pos hna]; rfl)
    · by_cases hnb : s < need b.toNat
      · exact walk_half a b s 107 w ha0 ha1 hb0 hb1 (by unfold perr; rw [if_neg hr, if_neg hna]) (by unfold perr; rw [if_neg hr, if_pos hnb]) rfl (by unfold pout; rw [if_neg hr, if_pos hnb]; rfl)
      · refine walk_ok a b s w ha0 ha1 hb0 hb1 (by unfold perr; rw [if_neg hr, if_neg hna]) (by unfold perr; rw [if_neg hr, if_neg hnb]) ?_
        have ea : pout a s = oct a.toNat s.toNat := by unfold pout; rw [if_neg hr, if_neg hna]
        have eb : pout b s = oct b.toNat s.toNat := by unfold pout; rw [if_neg hr, if_neg hnb]
        rw [ea, eb, less_strs _ _ _ ((need_le_iff _ _).1 (by omega)) ((need_le_iff _ _).1 (by omega))]
        rw [decide_eq_decide]
        omega

set_option maxRecDepth 100000 in
theorem lifted (os : Os) (started : os.Started) (H : Type) (enc : TypeId × Value → H) :
    ReturnsInHanded {} Try.checked os 6 .any (Rows.octetsOrderSpec.pre6 enc Try.prog Try.f6 Rows.octetsOrderRow.domain false) (Rows.octetsOrderSpec.post enc Try.prog Try.f6 false true false false) := by
  refine returnsInHanded_of_change (C := Try.checked) own started (by kernel_rfl) Try.func6
    (ChangeSpec.witness6 (enc := enc) (C := Try.checked) false ⟨#[], #[.int .u64 0, .int .u64 0, .int .i64 0], []⟩ 8 (by kernel_rfl) (by kernel_rfl) (by kernel_rfl) (by kernel_rfl)) ?_
  intro W base args ds gs before hval0 hW hcnd _
  have hval : ∀ (j : Nat) t v, Try.f6.params[j]? = some t → args[j]? = some v → Value.okWide Try.prog W .any base t v := hval0
  have hW' := hW
  obtain ⟨p, q, hA0, hV, rfl, hfz, hnd⟩ := hW
  have hA : DataW.TrodAll enc Try.prog W 0 (fun _ => true) true Try.f6.params.toList args.toList ds p := hA0
  rw [Try.params6] at hA hval
  obtain ⟨v0, vs0, d0, ds0, p0, q0, hargs, rfl, rfl, h0, r0⟩ := trodAll_cons hA
  obtain ⟨v1, vs1, d1, ds1, p1, q1, rfl, rfl, rfl, h1, r1⟩ := trodAll_cons r0
  obtain ⟨v2, vs2, d2, ds2, p2, q2, rfl, rfl, rfl, h2, r2⟩ := trodAll_cons r1
  obtain ⟨rfl, rfl, rfl⟩ := trodAll_nil r2
  obtain rfl : args = #[v0, v1, v2] := by cases args; simp_all
  obtain ⟨rfl, rfl⟩ := trodVars_none hV
  obtain ⟨a0, rfl, rfl, rfl, w0⟩ := open_int Try.underlying22 (hval 0 22 v0 rfl rfl) h0
  obtain ⟨a1, rfl, rfl, rfl, w1⟩ := open_int Try.underlying22 (hval 1 22 v1 rfl rfl) h1
  obtain ⟨a2, rfl, rfl, rfl, w2⟩ := open_int Try.underlying3 (hval 2 3 v2 rfl rfl) h2
  clear hA0 hval0
  have b0 := bounds_u64 w0
  have b1 := bounds_u64 w1
  refine (walk a0 a1 a2 W b0.1 b0.2 b1.1 b1.2).mono fun e W' ⟨he, bel⟩ => ?_
  subst he
  exact ⟨_, rfl, _, _, _, [], [], [], hW', trodAll_mk1 (shut_bool Try.underlying4 _), (trodAll_cons_mk (shut_int Try.underlying22 w0) (trodAll_cons_mk (shut_int Try.underlying22 w1) (trodAll_cons_mk (shut_int Try.underlying3 w2) trodAll_mk0))), rfl, bel.frame _, fun h => by cases h⟩

theorem over : Rows.octetsOrderRow.holds Try.pinned (OpenSpec.ofChange Rows.octetsOrderSpec) :=
  OpenClaim.holds_of_wide 6 Try.f6 rfl rfl rfl rfl rfl rfl rfl ⟨rfl, rfl, rfl, rfl, rfl⟩ rfl rfl rfl rfl rfl (by kernel_rfl) Try.func6 (by kernel_rfl)
    (of_decide_eq_true (by kernel_rfl)) (by unfold Func.isWrapper; first | (rw [if_pos (by decide +kernel)]; kernel_rfl) | (rw [if_neg (by decide +kernel)]; exact ⟨rfl, rfl⟩))
    (fun os started H enc _ => lifted os started H enc)

end Go.Proofs.Ytiinboedojjbkaa.octetsOrder

namespace Go.Proofs.Ytiinboedojjbkaa
theorem octetsOrder_holds : Rows.OctetsOrderSaid := octetsOrder.over
#print axioms octetsOrder_holds
end Go.Proofs.Ytiinboedojjbkaa
