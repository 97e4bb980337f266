/-
  CleanScores, proved: for every three numbers: the call returns true, and changes nothing that was in memory. No condition of its own.
-/
import Derived.Test.YtkpckadicjdieabXAlive
import Derived.Test.YtkpckadicjdieabFrame
namespace Go.Proofs.Ytkpckadicjdieab.cleanScores
open Go.ChangeShapes Go.WideShapes Go.ChangeAt Go.RowKit
set_option linter.unusedVariables false

set_option maxRecDepth 100000 in
set_option maxHeartbeats 8000000 in
theorem walk (q l n : Int) (w : World) (hq : I64 q) (hl : I64 l) (hn : I64 n) :
    Calls Try.prog 5 #[.int .i64 q, .int .i64 l, .int .i64 n] w fun e w' => e = .returned (.bool true) ∧ Below w.heap.size w w' := by
  obtain ⟨post, hpost⟩ : ∃ post : Ending → World → Prop, post = fun e w' => e = .returned (.bool true) ∧ Below w.heap.size w w' := ⟨_, rfl⟩
  have HQ : Hid (post (.returned (.bool true)) w) := by rw [hpost]; exact ⟨rfl, Below.refl _ _⟩
  rw [← hpost]
  clear hpost
  have HA := alive16_any w
  have HC := score_any q l n w hq hl hn
  by_cases hk : scOk q l n
  case neg =>
    rw [sc_no hk, sc_no2 hk] at HC
    clear hk
    go_enter Try.func5, Try.ntmps5
    go_wp2_with fail
    refine HA.mono ?_
    rintro e9 w9 ⟨rfl, rfl⟩
    go_wp2_with fail
    refine HC.mono ?_
    rintro e9 w9 ⟨rfl, rfl⟩
    clear HA HC
    go_wp2_with (go_at_call 11; refine (num16_any _ _).mono ?_; rintro e9 wn ⟨rfl, rfl⟩)
    exact HQ.out
  obtain ⟨a, ha⟩ : ∃ z, z = scV q l n := ⟨_, rfl⟩
  obtain ⟨l2, hl2⟩ : ∃ z, z = max (l - 1) 0 := ⟨_, rfl⟩
  obtain ⟨q2, hq2⟩ : ∃ z, z = min (q + 1) n := ⟨_, rfl⟩
  obtain ⟨b, hb⟩ : ∃ z, z = scV q l2 n := ⟨_, rfl⟩
  obtain ⟨c, hc⟩ : ∃ z, z = scV q2 l n := ⟨_, rfl⟩
  have k1 := sc_less hk
  have k2 := sc_young hk
  rw [← hl2, ← ha, ← hb] at k1
  rw [← hq2, ← ha, ← hc] at k2
  rw [← ha, sc_yes2 hk] at HC
  have k3 : l = 8 → a = 0 := fun e => by rw [ha, e]; exact sc_eight
  have ba := @sc_bound q l n
  have bb := @sc_bound q l2 n
  have bc := @sc_bound q2 l n
  rw [← ha] at ba
  rw [← hb] at bb
  rw [← hc] at bc
  obtain ⟨g1, g2, g3, g4, g5, g6⟩ := hk
  have HC1 := score_any q l2 n w hq ⟨by omega, by omega⟩ hn
  rw [← hb, k1.1] at HC1
  have HC2 := score_any q2 l n w ⟨by omega, by omega⟩ hl hn
  rw [← hc, k2.1] at HC2
  have hba : a ≤ b := k1.2
  have hca : c ≤ a := k2.2
  clear k1 k2 ha hb hc
  rcases (show l = 0 ∨ l = 1 ∨ (2 ≤ l ∧ l < 8) ∨ l = 8 by omega) with hL | hL | hL | hL
  · subst hL
    have e2 : l2 = 0 := by omega
    rw [e2] at HC1
    clear hl2 e2 k3
    rcases (show q + 1 < n ∨ q + 1 = n ∨ q = n by omega) with hN | hN | hN
    · have e3 : q2 = q + 1 := by omega
      rw [e3] at HC2
      clear hq2 e3
      go_enter Try.func5, Try.ntmps5
      go_wp2_with fail
      refine HA.mono ?_
      rintro e9 w9 ⟨rfl, rfl⟩
      go_wp2_with fail
      refine HC.mono ?_
      rintro e9 w9 ⟨rfl, rfl⟩
      clear HA HC
      go_wp2_with (go_at_call 11; refine (num16_any _ _).mono ?_; rintro e9 wn ⟨rfl, rfl⟩)
      refine HC1.mono ?_
      rintro e9 w9 ⟨rfl, rfl⟩
      go_wp2_with (go_at_call 11; refine (num16_any _ _).mono ?_; rintro e9 wn ⟨rfl, rfl⟩)
      refine HC2.mono ?_
      rintro e9 w9 ⟨rfl, rfl⟩
      clear HC1 HC2
      go_wp2_with (go_at_call 11; refine (num16_any _ _).mono ?_; rintro e9 wn ⟨rfl, rfl⟩)
      exact HQ.out
    · have e3 : q2 = n := by omega
      rw [e3] at HC2
      clear hq2 e3
      subst hN
      go_enter Try.func5, Try.ntmps5
      go_wp2_with fail
      refine HA.mono ?_
      rintro e9 w9 ⟨rfl, rfl⟩
      go_wp2_with fail
      refine HC.mono ?_
      rintro e9 w9 ⟨rfl, rfl⟩
      clear HA HC
      go_wp2_with (go_at_call 11; refine (num16_any _ _).mono ?_; rintro e9 wn ⟨rfl, rfl⟩)
      refine HC1.mono ?_
      rintro e9 w9 ⟨rfl, rfl⟩
      go_wp2_with (go_at_call 11; refine (num16_any _ _).mono ?_; rintro e9 wn ⟨rfl, rfl⟩)
      refine HC2.mono ?_
      rintro e9 w9 ⟨rfl, rfl⟩
      clear HC1 HC2
      go_wp2_with (go_at_call 11; refine (num16_any _ _).mono ?_; rintro e9 wn ⟨rfl, rfl⟩)
      exact HQ.out
    · have hN2 : n < q + 1 := by omega
      have e3 : q2 = n := by omega
      rw [e3] at HC2
      clear hq2 e3
      subst hN
      go_enter Try.func5, Try.ntmps5
      go_wp2_with fail
      refine HA.mono ?_
      rintro e9 w9 ⟨rfl, rfl⟩
      go_wp2_with fail
      refine HC.mono ?_
      rintro e9 w9 ⟨rfl, rfl⟩
      clear HA HC
      go_wp2_with (go_at_call 11; refine (num16_any _ _).mono ?_; rintro e9 wn ⟨rfl, rfl⟩)
      refine HC1.mono ?_
      rintro e9 w9 ⟨rfl, rfl⟩
      go_wp2_with (go_at_call 11; refine (num16_any _ _).mono ?_; rintro e9 wn ⟨rfl, rfl⟩)
      refine HC2.mono ?_
      rintro e9 w9 ⟨rfl, rfl⟩
      clear HC1 HC2
      go_wp2_with (go_at_call 11; refine (num16_any _ _).mono ?_; rintro e9 wn ⟨rfl, rfl⟩)
      exact HQ.out
  · subst hL
    have e2 : l2 = 0 := by omega
    rw [e2] at HC1
    clear hl2 e2 k3
    rcases (show q + 1 < n ∨ q + 1 = n ∨ q = n by omega) with hN | hN | hN
    · have e3 : q2 = q + 1 := by omega
      rw [e3] at HC2
      clear hq2 e3
      go_enter Try.func5, Try.ntmps5
      go_wp2_with fail
      refine HA.mono ?_
      rintro e9 w9 ⟨rfl, rfl⟩
      go_wp2_with fail
      refine HC.mono ?_
      rintro e9 w9 ⟨rfl, rfl⟩
      clear HA HC
      go_wp2_with (go_at_call 11; refine (num16_any _ _).mono ?_; rintro e9 wn ⟨rfl, rfl⟩)
      refine HC1.mono ?_
      rintro e9 w9 ⟨rfl, rfl⟩
      go_wp2_with (go_at_call 11; refine (num16_any _ _).mono ?_; rintro e9 wn ⟨rfl, rfl⟩)
      refine HC2.mono ?_
      rintro e9 w9 ⟨rfl, rfl⟩
      clear HC1 HC2
      go_wp2_with (go_at_call 11; refine (num16_any _ _).mono ?_; rintro e9 wn ⟨rfl, rfl⟩)
      exact HQ.out
    · have e3 : q2 = n := by omega
      rw [e3] at HC2
      clear hq2 e3
      subst hN
      go_enter Try.func5, Try.ntmps5
      go_wp2_with fail
      refine HA.mono ?_
      rintro e9 w9 ⟨rfl, rfl⟩
      go_wp2_with fail
      refine HC.mono ?_
      rintro e9 w9 ⟨rfl, rfl⟩
      clear HA HC
      go_wp2_with (go_at_call 11; refine (num16_any _ _).mono ?_; rintro e9 wn ⟨rfl, rfl⟩)
      refine HC1.mono ?_
      rintro e9 w9 ⟨rfl, rfl⟩
      go_wp2_with (go_at_call 11; refine (num16_any _ _).mono ?_; rintro e9 wn ⟨rfl, rfl⟩)
      refine HC2.mono ?_
      rintro e9 w9 ⟨rfl, rfl⟩
      clear HC1 HC2
      go_wp2_with (go_at_call 11; refine (num16_any _ _).mono ?_; rintro e9 wn ⟨rfl, rfl⟩)
      exact HQ.out
    · have hN2 : n < q + 1 := by omega
      have e3 : q2 = n := by omega
      rw [e3] at HC2
      clear hq2 e3
      subst hN
      go_enter Try.func5, Try.ntmps5
      go_wp2_with fail
      refine HA.mono ?_
      rintro e9 w9 ⟨rfl, rfl⟩
      go_wp2_with fail
      refine HC.mono ?_
      rintro e9 w9 ⟨rfl, rfl⟩
      clear HA HC
      go_wp2_with (go_at_call 11; refine (num16_any _ _).mono ?_; rintro e9 wn ⟨rfl, rfl⟩)
      refine HC1.mono ?_
      rintro e9 w9 ⟨rfl, rfl⟩
      go_wp2_with (go_at_call 11; refine (num16_any _ _).mono ?_; rintro e9 wn ⟨rfl, rfl⟩)
      refine HC2.mono ?_
      rintro e9 w9 ⟨rfl, rfl⟩
      clear HC1 HC2
      go_wp2_with (go_at_call 11; refine (num16_any _ _).mono ?_; rintro e9 wn ⟨rfl, rfl⟩)
      exact HQ.out
  · obtain ⟨hL1, hL2⟩ := hL
    have hL3 : 0 < l - 1 := by omega
    have e2 : l2 = l - 1 := by omega
    rw [e2] at HC1
    clear hl2 e2 k3
    rcases (show q + 1 < n ∨ q + 1 = n ∨ q = n by omega) with hN | hN | hN
    · have e3 : q2 = q + 1 := by omega
      rw [e3] at HC2
      clear hq2 e3
      go_enter Try.func5, Try.ntmps5
      go_wp2_with fail
      refine HA.mono ?_
      rintro e9 w9 ⟨rfl, rfl⟩
      go_wp2_with fail
      refine HC.mono ?_
      rintro e9 w9 ⟨rfl, rfl⟩
      clear HA HC
      go_wp2_with (go_at_call 11; refine (num16_any _ _).mono ?_; rintro e9 wn ⟨rfl, rfl⟩)
      refine HC1.mono ?_
      rintro e9 w9 ⟨rfl, rfl⟩
      go_wp2_with (go_at_call 11; refine (num16_any _ _).mono ?_; rintro e9 wn ⟨rfl, rfl⟩)
      refine HC2.mono ?_
      rintro e9 w9 ⟨rfl, rfl⟩
      clear HC1 HC2
      go_wp2_with (go_at_call 11; refine (num16_any _ _).mono ?_; rintro e9 wn ⟨rfl, rfl⟩)
      exact HQ.out
    · have e3 : q2 = n := by omega
      rw [e3] at HC2
      clear hq2 e3
      subst hN
      go_enter Try.func5, Try.ntmps5
      go_wp2_with fail
      refine HA.mono ?_
      rintro e9 w9 ⟨rfl, rfl⟩
      go_wp2_with fail
      refine HC.mono ?_
      rintro e9 w9 ⟨rfl, rfl⟩
      clear HA HC
      go_wp2_with (go_at_call 11; refine (num16_any _ _).mono ?_; rintro e9 wn ⟨rfl, rfl⟩)
      refine HC1.mono ?_
      rintro e9 w9 ⟨rfl, rfl⟩
      go_wp2_with (go_at_call 11; refine (num16_any _ _).mono ?_; rintro e9 wn ⟨rfl, rfl⟩)
      refine HC2.mono ?_
      rintro e9 w9 ⟨rfl, rfl⟩
      clear HC1 HC2
      go_wp2_with (go_at_call 11; refine (num16_any _ _).mono ?_; rintro e9 wn ⟨rfl, rfl⟩)
      exact HQ.out
    · have hN2 : n < q + 1 := by omega
      have e3 : q2 = n := by omega
      rw [e3] at HC2
      clear hq2 e3
      subst hN
      go_enter Try.func5, Try.ntmps5
      go_wp2_with fail
      refine HA.mono ?_
      rintro e9 w9 ⟨rfl, rfl⟩
      go_wp2_with fail
      refine HC.mono ?_
      rintro e9 w9 ⟨rfl, rfl⟩
      clear HA HC
      go_wp2_with (go_at_call 11; refine (num16_any _ _).mono ?_; rintro e9 wn ⟨rfl, rfl⟩)
      refine HC1.mono ?_
      rintro e9 w9 ⟨rfl, rfl⟩
      go_wp2_with (go_at_call 11; refine (num16_any _ _).mono ?_; rintro e9 wn ⟨rfl, rfl⟩)
      refine HC2.mono ?_
      rintro e9 w9 ⟨rfl, rfl⟩
      clear HC1 HC2
      go_wp2_with (go_at_call 11; refine (num16_any _ _).mono ?_; rintro e9 wn ⟨rfl, rfl⟩)
      exact HQ.out
  · subst hL
    obtain rfl : a = 0 := k3 rfl
    have e2 : l2 = 7 := by omega
    rw [e2] at HC1
    clear hl2 e2 k3
    rcases (show q + 1 < n ∨ q + 1 = n ∨ q = n by omega) with hN | hN | hN
    · have e3 : q2 = q + 1 := by omega
      rw [e3] at HC2
      clear hq2 e3
      go_enter Try.func5, Try.ntmps5
      go_wp2_with fail
      refine HA.mono ?_
      rintro e9 w9 ⟨rfl, rfl⟩
      go_wp2_with fail
      refine HC.mono ?_
      rintro e9 w9 ⟨rfl, rfl⟩
      clear HA HC
      go_wp2_with (go_at_call 11; refine (num16_any _ _).mono ?_; rintro e9 wn ⟨rfl, rfl⟩)
      refine HC1.mono ?_
      rintro e9 w9 ⟨rfl, rfl⟩
      go_wp2_with (go_at_call 11; refine (num16_any _ _).mono ?_; rintro e9 wn ⟨rfl, rfl⟩)
      refine HC2.mono ?_
      rintro e9 w9 ⟨rfl, rfl⟩
      clear HC1 HC2
      go_wp2_with (go_at_call 11; refine (num16_any _ _).mono ?_; rintro e9 wn ⟨rfl, rfl⟩)
      exact HQ.out
    · have e3 : q2 = n := by omega
      rw [e3] at HC2
      clear hq2 e3
      subst hN
      go_enter Try.func5, Try.ntmps5
      go_wp2_with fail
      refine HA.mono ?_
      rintro e9 w9 ⟨rfl, rfl⟩
      go_wp2_with fail
      refine HC.mono ?_
      rintro e9 w9 ⟨rfl, rfl⟩
      clear HA HC
      go_wp2_with (go_at_call 11; refine (num16_any _ _).mono ?_; rintro e9 wn ⟨rfl, rfl⟩)
      refine HC1.mono ?_
      rintro e9 w9 ⟨rfl, rfl⟩
      go_wp2_with (go_at_call 11; refine (num16_any _ _).mono ?_; rintro e9 wn ⟨rfl, rfl⟩)
      refine HC2.mono ?_
      rintro e9 w9 ⟨rfl, rfl⟩
      clear HC1 HC2
      go_wp2_with (go_at_call 11; refine (num16_any _ _).mono ?_; rintro e9 wn ⟨rfl, rfl⟩)
      exact HQ.out
    · have hN2 : n < q + 1 := by omega
      have e3 : q2 = n := by omega
      rw [e3] at HC2
      clear hq2 e3
      subst hN
      go_enter Try.func5, Try.ntmps5
      go_wp2_with fail
      refine HA.mono ?_
      rintro e9 w9 ⟨rfl, rfl⟩
      go_wp2_with fail
      refine HC.mono ?_
      rintro e9 w9 ⟨rfl, rfl⟩
      clear HA HC
      go_wp2_with (go_at_call 11; refine (num16_any _ _).mono ?_; rintro e9 wn ⟨rfl, rfl⟩)
      refine HC1.mono ?_
      rintro e9 w9 ⟨rfl, rfl⟩
      go_wp2_with (go_at_call 11; refine (num16_any _ _).mono ?_; rintro e9 wn ⟨rfl, rfl⟩)
      refine HC2.mono ?_
      rintro e9 w9 ⟨rfl, rfl⟩
      clear HC1 HC2
      go_wp2_with (go_at_call 11; refine (num16_any _ _).mono ?_; rintro e9 wn ⟨rfl, rfl⟩)
      exact HQ.out
set_option maxRecDepth 100000 in
theorem lifted (os : Os) (started : os.Started) (H : Type) (enc : TypeId × Value → H) :
    ReturnsInHanded {} Try.checked os 5 .any (Rows.cleanScoresSpec.pre6 enc Try.prog Try.f5 Rows.cleanScoresRow.domain false) (Rows.cleanScoresSpec.post enc Try.prog Try.f5 false true false false) := by
  refine returnsInHanded_of_change_sized (C := Try.checked) own started (by kernel_rfl) Try.func5
    (ChangeSpec.witness6 (enc := enc) (C := Try.checked) false ⟨#[], #[.int .i64 0, .int .i64 0, .int .i64 0], []⟩ 8 (by kernel_rfl) (by kernel_rfl) (by kernel_rfl) (by kernel_rfl)) ?_
  intro W base args ds gs before hval0 hW hcnd hsz0 _
  have hval : ∀ (j : Nat) t v, Try.f5.params[j]? = some t → args[j]? = some v → Value.okWide Try.prog W .any base t v := hval0
  have hW' := hW
  obtain ⟨p, q, hA0, hV, rfl, hfz, hnd⟩ := hW
  have hA : DataW.TrodAll enc Try.prog W 0 (fun _ => true) true Try.f5.params.toList args.toList ds p := hA0
  have hsz : (DataW.weightsEach Try.prog (Try.f5.params.toList ++ Rows.cleanScoresSpec.plain.varTypes Try.prog) (ds ++ gs)).all (· ≤ reachBytes) = true := hsz0
  clear hsz0
  rw [Try.params5] at hA hval hsz
  obtain ⟨v0, vs0, d0, ds0, p0, q0, hargs, rfl, rfl, h0, r0⟩ := trodAll_cons hA
  obtain ⟨v1, vs1, d1, ds1, p1, q1, rfl, rfl, rfl, h1, r1⟩ := trodAll_cons r0
  obtain ⟨v2, vs2, d2, ds2, p2, q2, rfl, rfl, rfl, h2, r2⟩ := trodAll_cons r1
  obtain ⟨rfl, rfl, rfl⟩ := trodAll_nil r2
  obtain rfl : args = #[v0, v1, v2] := by cases args; simp_all
  obtain ⟨rfl, rfl⟩ := trodVars_none hV
  obtain ⟨a0, rfl, rfl, rfl, w0⟩ := open_int Try.underlying3 (hval 0 3 v0 rfl rfl) h0
  have b0 := bounds_i64 w0
  obtain ⟨a1, rfl, rfl, rfl, w1⟩ := open_int Try.underlying3 (hval 1 3 v1 rfl rfl) h1
  have b1 := bounds_i64 w1
  obtain ⟨a2, rfl, rfl, rfl, w2⟩ := open_int Try.underlying3 (hval 2 3 v2 rfl rfl) h2
  have b2 := bounds_i64 w2
  clear hA0 hval0
  refine (walk a0 a1 a2 W (bounds_i64 w0) (bounds_i64 w1) (bounds_i64 w2)).mono fun e W' ⟨he, bel⟩ => ?_
  subst he
  exact ⟨_, rfl, _, _, _, [], _, [], hW', trodAll_mk1 (shut_bool Try.underlying4 _), (trodAll_cons_mk (shut_int Try.underlying3 w0) (trodAll_cons_mk (shut_int Try.underlying3 w1) (trodAll_cons_mk (shut_int Try.underlying3 w2) trodAll_mk0))), rfl, bel.frame _, fun h => by cases h⟩

theorem over : Rows.cleanScoresRow.holds Try.pinned (OpenSpec.ofChange Rows.cleanScoresSpec) :=
  OpenClaim.holds_of_wide 5 Try.f5 rfl rfl rfl rfl rfl rfl rfl ⟨rfl, rfl, rfl, rfl, rfl⟩ rfl rfl rfl rfl rfl (by kernel_rfl) Try.func5 (by kernel_rfl)
    (of_decide_eq_true (by kernel_rfl)) (by unfold Func.isWrapper; first | (rw [if_pos (by decide +kernel)]; kernel_rfl) | (rw [if_neg (by decide +kernel)]; exact ⟨rfl, rfl⟩))
    (fun os started H enc _ => lifted os started H enc)

end Go.Proofs.Ytkpckadicjdieab.cleanScores

namespace Go.Proofs.Ytkpckadicjdieab
theorem cleanScores_holds : Rows.CleanScoresSaid := cleanScores.over
#print axioms cleanScores_holds
end Go.Proofs.Ytkpckadicjdieab
