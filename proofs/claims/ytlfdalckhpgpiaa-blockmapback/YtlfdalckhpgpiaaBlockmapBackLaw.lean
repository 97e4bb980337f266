/-
  BlockmapBack: for every two numbers the law answers true: the index of a path is its index; two unlike indexes have unlike paths. No condition.
-/
import Derived.Test.YtlfdalckhpgpiaaAlive
import Derived.Test.YtlfdalckhpgpiaaIndex
import Derived.Test.YtlfdalckhpgpiaaFrame
namespace Go.Proofs.Ytlfdalckhpgpiaa.blockmapBack
open Go.ChangeShapes Go.WideShapes Go.ChangeAt Go.RowKit

set_option maxRecDepth 100000 in
set_option maxHeartbeats 1000000 in
theorem walk (a b : Int) (w : World) (ha : I64 a) (hb : I64 b) : Calls Try.prog 4 #[.int .i64 a, .int .i64 b] w fun e w' => e = .returned (.bool true) ∧ Below w.heap.size w w' := by
  have HA := alive_any w
  have H1 := fun V => path_any a V ha
  have H2 := fun V => path_any b V hb
  unfold I64 at ha hb
  obtain ⟨n1, hn1⟩ : ∃ n, n = (pathL a).length := ⟨_, rfl⟩
  obtain ⟨n2, hn2⟩ : ∃ n, n = (pathL b).length := ⟨_, rfl⟩
  rw [← hn1] at H1
  rw [← hn2] at H2
  clear hn1 hn2
  by_cases h1 : 0 ≤ a ∧ a < 76
  · have e1 : pathE a = 0 := if_pos h1
    rw [e1] at H1
    by_cases h2 : 0 ≤ b ∧ b < 76
    · have e2 : pathE b = 0 := if_pos h2
      rw [e2] at H2
      have HI := idx_some (idx_path h1)
      have HJ : Hid (idxV (pathL a) = a ∧ idxE (pathL a) = 0 ∧ decide (pathL a = pathL b) = decide (a = b)) := ⟨HI.1, HI.2, by simp [path_inj h1 h2]⟩
      clear HI e1 e2 h1 h2
      go_enter Try.func4, Try.ntmps4
      go_wp2_with fail
      refine HA.mono ?_
      rintro e w1 ⟨rfl, hb1⟩
      go_wp2_with fail
      refine (H1 _).mono ?_
      rintro e w2 ⟨⟨a1, c1, rfl, ho1⟩, hb2⟩
      have HO1 : Hid (∀ V, Below w2.heap.size w2 V → intsS.lies 0 V [.slice a1 n1 c1] (pathL a)) := fun V hV => intsS.weaken (intsS.olies (intsS.obelow ho1 hV)) (Nat.zero_le _)
      have HB2 : Hid (Below w.heap.size w w2) := below_any hb1 hb2
      clear ho1 hb1 hb2
      go_wp2_with fail
      refine (H2 _).mono ?_
      rintro e w3 ⟨⟨a2, c2, rfl, ho2⟩, hb3⟩
      have H3 := index_any 0 _ _ w3 (HO1.out w3 hb3)
      rw [HJ.out.1, HJ.out.2.1] at H3
      have HO2 : Hid (∀ V, Below w3.heap.size w3 V → intsS.lies 0 V [.slice a1 n1 c1] (pathL a) ∧ intsS.lies 0 V [.slice a2 n2 c2] (pathL b) ∧ Below w.heap.size w V) := fun V hV => ⟨HO1.out V (below_any hb3 hV), intsS.weaken (intsS.olies (intsS.obelow ho2 hV)) (Nat.zero_le _), below_any (below_any HB2.out hb3) hV⟩
      clear ho2 hb3 H1 H2
      go_wp2_with (go_at_call 18; refine (num_any _ _).mono ?_; rintro e w3 ⟨rfl, rfl⟩)
      refine H3.mono ?_
      rintro e w4 ⟨rfl, hb4⟩
      have H4 := same_any 0 0 _ _ _ _ w4 (HO2.out w4 hb4).1 (HO2.out w4 hb4).2.1
      rw [HJ.out.2.2] at H4
      have HB4 : Hid (Below w.heap.size w w4) := (HO2.out w4 hb4).2.2
      clear H3 hb4
      go_wp2_with (go_at_call 18; refine (num_any _ _).mono ?_; rintro e w3 ⟨rfl, rfl⟩)
      refine H4.mono ?_
      rintro e w5 ⟨rfl, q, rfl⟩
      by_cases hab : a = b
      · have hd : decide (a = b) = true := by simp [hab]
        rw [hd]
        go_wp2
        go_ret
        exact ⟨by first | rfl | (simp [hab]; done), below_drewN HB4.out q⟩
      · have hd : decide (a = b) = false := by simp [hab]
        rw [hd]
        go_wp2
        go_ret
        exact ⟨by first | rfl | (simp [hab]; done), below_drewN HB4.out q⟩
    · have e2 : pathE b = 4 := if_neg h2
      rw [e2] at H2
      obtain ⟨h3, h4⟩ := h1
      have h5 : ¬ a < 0 := by omega
      have h6 : ¬ 75 < a := by omega
      by_cases h7 : b < 0
      · go_enter Try.func4, Try.ntmps4
        go_wp2_with fail
        refine HA.mono ?_
        rintro e w1 ⟨rfl, hb1⟩
        go_wp2_with fail
        refine (H1 _).mono ?_
        rintro e w2 ⟨⟨a1, c1, rfl, _⟩, hb2⟩
        go_wp2_with fail
        refine (H2 _).mono ?_
        rintro e w3 ⟨⟨a2, c2, rfl, _⟩, hb3⟩
        go_wp2_with (go_at_call 18; refine (num_any _ _).mono ?_; rintro e w3 ⟨rfl, rfl⟩)
        go_ret
        exact ⟨by first | rfl | (simp; omega), below_any (below_any hb1 hb2) hb3⟩
      · have h8 : 75 < b := by omega
        go_enter Try.func4, Try.ntmps4
        go_wp2_with fail
        refine HA.mono ?_
        rintro e w1 ⟨rfl, hb1⟩
        go_wp2_with fail
        refine (H1 _).mono ?_
        rintro e w2 ⟨⟨a1, c1, rfl, _⟩, hb2⟩
        go_wp2_with fail
        refine (H2 _).mono ?_
        rintro e w3 ⟨⟨a2, c2, rfl, _⟩, hb3⟩
        go_wp2_with (go_at_call 18; refine (num_any _ _).mono ?_; rintro e w3 ⟨rfl, rfl⟩)
        go_ret
        exact ⟨by first | rfl | (simp; omega), below_any (below_any hb1 hb2) hb3⟩
  · have e1 : pathE a = 4 := if_neg h1
    rw [e1] at H1
    have HE : (pathE b = 0 ∧ ¬ b < 0 ∧ ¬ 75 < b) ∨ (pathE b = 4 ∧ b < 0) ∨ (pathE b = 4 ∧ ¬ b < 0 ∧ 75 < b) := by unfold pathE; split <;> omega
    have HE1 : a < 0 ∨ (¬ a < 0 ∧ 75 < a) := by omega
    rcases HE1 with h3 | ⟨h3, h4⟩
    · rcases HE with ⟨e2, h5, h6⟩ | ⟨e2, h5⟩ | ⟨e2, h5, h6⟩
      all_goals
        rw [e2] at H2
        go_enter Try.func4, Try.ntmps4
        go_wp2_with fail
        refine HA.mono ?_
        rintro e w1 ⟨rfl, hb1⟩
        go_wp2_with fail
        refine (H1 _).mono ?_
        rintro e w2 ⟨⟨a1, c1, rfl, _⟩, hb2⟩
        go_wp2_with fail
        refine (H2 _).mono ?_
        rintro e w3 ⟨⟨a2, c2, rfl, _⟩, hb3⟩
        go_wp2_with (go_at_call 18; refine (num_any _ _).mono ?_; rintro e w3 ⟨rfl, rfl⟩)
        go_ret
        exact ⟨by first | rfl | (simp; omega), below_any (below_any hb1 hb2) hb3⟩
    · rcases HE with ⟨e2, h5, h6⟩ | ⟨e2, h5⟩ | ⟨e2, h5, h6⟩
      all_goals
        rw [e2] at H2
        go_enter Try.func4, Try.ntmps4
        go_wp2_with fail
        refine HA.mono ?_
        rintro e w1 ⟨rfl, hb1⟩
        go_wp2_with fail
        refine (H1 _).mono ?_
        rintro e w2 ⟨⟨a1, c1, rfl, _⟩, hb2⟩
        go_wp2_with fail
        refine (H2 _).mono ?_
        rintro e w3 ⟨⟨a2, c2, rfl, _⟩, hb3⟩
        go_wp2_with (go_at_call 18; refine (num_any _ _).mono ?_; rintro e w3 ⟨rfl, rfl⟩)
        go_ret
        exact ⟨by first | rfl | (simp; omega), below_any (below_any hb1 hb2) hb3⟩

set_option maxRecDepth 100000 in
theorem lifted (os : Os) (started : os.Started) (H : Type) (enc : TypeId × Value → H) :
    ReturnsInHanded {} Try.checked os 4 .any (Rows.blockmapBackSpec.pre6 enc Try.prog Try.f4 Rows.blockmapBackRow.domain false) (Rows.blockmapBackSpec.post enc Try.prog Try.f4 false true false false) := by
  refine returnsInHanded_of_change_sized (C := Try.checked) own started (by kernel_rfl) Try.func4
    (ChangeSpec.witness6 (enc := enc) (C := Try.checked) false ⟨#[], #[.int .i64 0, .int .i64 0], []⟩ 8 (by kernel_rfl) (by kernel_rfl) (by kernel_rfl) (by kernel_rfl)) ?_
  intro W base args ds gs before hval0 hW hcnd hsz0 _
  have hval : ∀ (j : Nat) t v, Try.f4.params[j]? = some t → args[j]? = some v → Value.okWide Try.prog W .any base t v := hval0
  have hW' := hW
  obtain ⟨p, q, hA0, hV, rfl, hfz, hnd⟩ := hW
  have hA : DataW.TrodAll enc Try.prog W 0 (fun _ => true) true Try.f4.params.toList args.toList ds p := hA0
  have hsz : (DataW.weightsEach Try.prog (Try.f4.params.toList ++ Rows.blockmapBackSpec.plain.varTypes Try.prog) (ds ++ gs)).all (· ≤ reachBytes) = true := hsz0
  clear hsz0
  rw [Try.params4] at hA hval hsz
  obtain ⟨v0, vs0, d0, ds0, p0, q0, hargs, rfl, rfl, h0, r0⟩ := trodAll_cons hA
  obtain ⟨v1, vs1, d1, ds1, p1, q1, rfl, rfl, rfl, h1, r1⟩ := trodAll_cons r0
  obtain ⟨rfl, rfl, rfl⟩ := trodAll_nil r1
  obtain rfl : args = #[v0, v1] := by cases args; simp_all
  obtain ⟨rfl, rfl⟩ := trodVars_none hV
  obtain ⟨a0, rfl, rfl, rfl, w0⟩ := open_int Try.underlying3 (hval 0 3 v0 rfl rfl) h0
  have b0 := bounds_i64 w0
  obtain ⟨a1, rfl, rfl, rfl, w1⟩ := open_int Try.underlying3 (hval 1 3 v1 rfl rfl) h1
  have b1 := bounds_i64 w1
  clear hA0 hval0
  refine (walk a0 a1 W b0 b1).mono fun e W' ⟨he, bel⟩ => ?_
  subst he
  exact ⟨_, rfl, _, _, _, [], _, [], hW', trodAll_mk1 (shut_bool Try.underlying4 _), (trodAll_cons_mk (shut_int Try.underlying3 w0) (trodAll_cons_mk (shut_int Try.underlying3 w1) trodAll_mk0)), rfl, bel.frame _, fun h => by cases h⟩

theorem over : Rows.blockmapBackRow.holds Try.pinned (OpenSpec.ofChange Rows.blockmapBackSpec) :=
  OpenClaim.holds_of_wide 4 Try.f4 rfl rfl rfl rfl rfl rfl rfl ⟨rfl, rfl, rfl, rfl, rfl⟩ rfl rfl rfl rfl rfl (by kernel_rfl) Try.func4 (by kernel_rfl)
    (of_decide_eq_true (by kernel_rfl)) (by unfold Func.isWrapper; first | (rw [if_pos (by decide +kernel)]; kernel_rfl) | (rw [if_neg (by decide +kernel)]; exact ⟨rfl, rfl⟩))
    (fun os started H enc _ => lifted os started H enc)

end Go.Proofs.Ytlfdalckhpgpiaa.blockmapBack

namespace Go.Proofs.Ytlfdalckhpgpiaa
theorem blockmapBack_holds : Rows.BlockmapBackSaid := blockmapBack.over
#print axioms blockmapBack_holds
end Go.Proofs.Ytlfdalckhpgpiaa
