/-
  BlockmapGrows: for every two numbers the law answers true: a larger file has no fewer blocks, of both kinds; its blocks hold it, and one fewer would not. No condition.
-/
import Derived.Test.YtlfdalckhpgpiaaAlive
import Derived.Test.YtlfdalckhpgpiaaFrame
namespace Go.Proofs.Ytlfdalckhpgpiaa.blockmapGrows
open Go.ChangeShapes Go.WideShapes Go.ChangeAt Go.RowKit

theorem spot (x : Int) : ∃ t j : Int, Int.tmod x 2433 = t ∧ -2433 < t ∧ t < 2433 ∧ Int.tmod (t + 2433) 2433 = j ∧ 0 ≤ j ∧ j ≤ 2432 := by
  have h1 := Int.tmod_lt_of_pos x (show (0 : Int) < 2433 by omega)
  have h2 := Int.lt_tmod_of_pos x (show (0 : Int) < 2433 by omega)
  refine ⟨_, _, rfl, h2, h1, rfl, ?_, ?_⟩
  · exact Int.tmod_nonneg _ (by omega)
  · have := Int.tmod_lt_of_pos (Int.tmod x 2433 + 2433) (show (0 : Int) < 2433 by omega)
    omega

theorem ind_mono {n m : Int} (h : n ≤ m) : indM n ≤ indM m := by
  unfold indM
  by_cases h1 : 12 < n
  · rw [if_pos h1, if_pos (by omega)]; omega
  · rw [if_neg h1]
    by_cases h2 : 4 < n
    · rw [if_pos h2]
      by_cases h3 : 12 < m
      · rw [if_pos h3]; omega
      · rw [if_neg h3, if_pos (by omega)]; omega
    · rw [if_neg h2]
      split
      · omega
      · split <;> omega

theorem ind_in {n : Int} (h : 0 ≤ n ∧ n ≤ 76) : 0 ≤ indM n ∧ indM n ≤ 10 := by
  unfold indM
  split
  · omega
  · split <;> omega

theorem grow {a b : Int} (ha : 0 ≤ a) (hab : a ≤ b) (hb : b ≤ 2432) : ∃ n m p q : Int, (blkV a = n ∧ blkM a = m ∧ blkE a = 0) ∧ (blkV b = p ∧ blkM b = q ∧ blkE b = 0) ∧ n ≤ p ∧ m ≤ q ∧ a ≤ 32 * n ∧ 32 * (n - 1) < a + (if n = 0 then 1000 else 0) ∧ 0 ≤ n ∧ n ≤ 76 := by
  have h1 := blk_in (s := a) (by omega)
  have h2 := blk_in (s := b) (by omega)
  refine ⟨_, _, _, _, h1, h2, ?_, ?_, ?_, ?_, (blkN_in (by omega)).1, (blkN_in (by omega)).2⟩
  · unfold blkN; omega
  · exact ind_mono (by unfold blkN; omega)
  · unfold blkN; omega
  · split
    · omega
    · unfold blkN; omega

set_option maxRecDepth 100000 in
set_option maxHeartbeats 1000000 in
theorem walk (a b : Int) (w : World) (_ : I64 a) (_ : I64 b) : Calls Try.prog 6 #[.int .i64 a, .int .i64 b] w fun e w' => e = .returned (.bool true) ∧ Below w.heap.size w w' := by
  have HA := alive_any w
  obtain ⟨t1, x, ht1, hl1, hu1, hx, hx0, hx1⟩ := spot a
  obtain ⟨t2, y, ht2, hl2, hu2, hy, hy0, hy1⟩ := spot b
  rcases Int.lt_trichotomy x y with hxy | hxy | hyx
  · obtain ⟨n, m, p, q, ⟨e1, e2, e3⟩, ⟨e4, e5, e6⟩, g1, g2, g3, g4, g5, g6⟩ := grow hx0 (Int.le_of_lt hxy) hy1
    have HS1 := fun V => blocks_any x V (by unfold I64; omega)
    have HS2 := fun V => blocks_any y V (by unfold I64; omega)
    rw [e1, e2, e3] at HS1
    rw [e4, e5, e6] at HS2
    clear e1 e2 e3 e4 e5 e6
    by_cases hn0 : n = 0
    · subst hn0
      go_enter Try.func6, Try.ntmps6
      go_wp2_with fail
      refine HA.mono ?_
      rintro e w1 ⟨rfl, hb⟩
      go_wp2_with fail
      refine (HS1 _).mono ?_
      rintro e w2 ⟨rfl, rfl⟩
      go_wp2_with fail
      refine (HS2 _).mono ?_
      rintro e w2 ⟨rfl, rfl⟩
      go_wp2_with (go_at_call 18; refine (num_any _ _).mono ?_; rintro e w3 ⟨rfl, rfl⟩)
      go_ret
      exact ⟨rfl, hb⟩
    · rw [if_neg hn0, Int.add_zero] at g4
      go_enter Try.func6, Try.ntmps6
      go_wp2_with fail
      refine HA.mono ?_
      rintro e w1 ⟨rfl, hb⟩
      go_wp2_with fail
      refine (HS1 _).mono ?_
      rintro e w2 ⟨rfl, rfl⟩
      go_wp2_with fail
      refine (HS2 _).mono ?_
      rintro e w2 ⟨rfl, rfl⟩
      go_wp2_with (go_at_call 18; refine (num_any _ _).mono ?_; rintro e w3 ⟨rfl, rfl⟩)
      go_ret
      exact ⟨rfl, hb⟩
  · subst hxy
    obtain ⟨n, m, p, q, ⟨e1, e2, e3⟩, ⟨e4, e5, e6⟩, g1, g2, g3, g4, g5, g6⟩ := grow hx0 (Int.le_refl _) hx1
    have HS1 := fun V => blocks_any x V (by unfold I64; omega)
    have HS2 := fun V => blocks_any x V (by unfold I64; omega)
    rw [e1, e2, e3] at HS1
    rw [e4, e5, e6] at HS2
    clear e1 e2 e3 e4 e5 e6
    by_cases hn0 : n = 0
    · subst hn0
      go_enter Try.func6, Try.ntmps6
      go_wp2_with fail
      refine HA.mono ?_
      rintro e w1 ⟨rfl, hb⟩
      go_wp2_with fail
      refine (HS1 _).mono ?_
      rintro e w2 ⟨rfl, rfl⟩
      go_wp2_with fail
      refine (HS2 _).mono ?_
      rintro e w2 ⟨rfl, rfl⟩
      go_wp2_with (go_at_call 18; refine (num_any _ _).mono ?_; rintro e w3 ⟨rfl, rfl⟩)
      go_ret
      exact ⟨rfl, hb⟩
    · rw [if_neg hn0, Int.add_zero] at g4
      go_enter Try.func6, Try.ntmps6
      go_wp2_with fail
      refine HA.mono ?_
      rintro e w1 ⟨rfl, hb⟩
      go_wp2_with fail
      refine (HS1 _).mono ?_
      rintro e w2 ⟨rfl, rfl⟩
      go_wp2_with fail
      refine (HS2 _).mono ?_
      rintro e w2 ⟨rfl, rfl⟩
      go_wp2_with (go_at_call 18; refine (num_any _ _).mono ?_; rintro e w3 ⟨rfl, rfl⟩)
      go_ret
      exact ⟨rfl, hb⟩
  · obtain ⟨n, m, p, q, ⟨e1, e2, e3⟩, ⟨e4, e5, e6⟩, g1, g2, g3, g4, g5, g6⟩ := grow hy0 (Int.le_of_lt hyx) hx1
    have HS1 := fun V => blocks_any y V (by unfold I64; omega)
    have HS2 := fun V => blocks_any x V (by unfold I64; omega)
    rw [e1, e2, e3] at HS1
    rw [e4, e5, e6] at HS2
    clear e1 e2 e3 e4 e5 e6
    by_cases hn0 : n = 0
    · subst hn0
      go_enter Try.func6, Try.ntmps6
      go_wp2_with fail
      refine HA.mono ?_
      rintro e w1 ⟨rfl, hb⟩
      go_wp2_with fail
      refine (HS1 _).mono ?_
      rintro e w2 ⟨rfl, rfl⟩
      go_wp2_with fail
      refine (HS2 _).mono ?_
      rintro e w2 ⟨rfl, rfl⟩
      go_wp2_with (go_at_call 18; refine (num_any _ _).mono ?_; rintro e w3 ⟨rfl, rfl⟩)
      go_ret
      exact ⟨rfl, hb⟩
    · rw [if_neg hn0, Int.add_zero] at g4
      go_enter Try.func6, Try.ntmps6
      go_wp2_with fail
      refine HA.mono ?_
      rintro e w1 ⟨rfl, hb⟩
      go_wp2_with fail
      refine (HS1 _).mono ?_
      rintro e w2 ⟨rfl, rfl⟩
      go_wp2_with fail
      refine (HS2 _).mono ?_
      rintro e w2 ⟨rfl, rfl⟩
      go_wp2_with (go_at_call 18; refine (num_any _ _).mono ?_; rintro e w3 ⟨rfl, rfl⟩)
      go_ret
      exact ⟨rfl, hb⟩

set_option maxRecDepth 100000 in
theorem lifted (os : Os) (started : os.Started) (H : Type) (enc : TypeId × Value → H) :
    ReturnsInHanded {} Try.checked os 6 .any (Rows.blockmapGrowsSpec.pre6 enc Try.prog Try.f6 Rows.blockmapGrowsRow.domain false) (Rows.blockmapGrowsSpec.post enc Try.prog Try.f6 false true false false) := by
  refine returnsInHanded_of_change_sized (C := Try.checked) own started (by kernel_rfl) Try.func6
    (ChangeSpec.witness6 (enc := enc) (C := Try.checked) false ⟨#[], #[.int .i64 0, .int .i64 0], []⟩ 8 (by kernel_rfl) (by kernel_rfl) (by kernel_rfl) (by kernel_rfl)) ?_
  intro W base args ds gs before hval0 hW hcnd hsz0 _
  have hval : ∀ (j : Nat) t v, Try.f6.params[j]? = some t → args[j]? = some v → Value.okWide Try.prog W .any base t v := hval0
  have hW' := hW
  obtain ⟨p, q, hA0, hV, rfl, hfz, hnd⟩ := hW
  have hA : DataW.TrodAll enc Try.prog W 0 (fun _ => true) true Try.f6.params.toList args.toList ds p := hA0
  have hsz : (DataW.weightsEach Try.prog (Try.f6.params.toList ++ Rows.blockmapGrowsSpec.plain.varTypes Try.prog) (ds ++ gs)).all (· ≤ reachBytes) = true := hsz0
  clear hsz0
  rw [Try.params6] at hA hval hsz
  obtain ⟨v0, vs0, d0, ds0, p0, q0, hargs, rfl, rfl, h0, r0⟩ := trodAll_cons hA
  obtain ⟨v1, vs1, d1, ds1, p1, q1, rfl, rfl, rfl, h1, r1⟩ := trodAll_cons r0
  obtain ⟨rfl, rfl, rfl⟩ := trodAll_nil r1
  obtain rfl : args = #[v0, v1] := by cases args; simp_all
  obtain ⟨rfl, rfl⟩ := trodVars_none hV
  obtain ⟨a0, rfl, rfl, rfl, w0⟩ := open_int Try.underlying3 (hval 0 3 v0 rfl rfl) h0
  have b0 := bounds_i64 w0
  obtain ⟨a1, rfl, rfl, rfl, w1⟩ := open_int Try.underlying3 (hval 1 3 v1 rfl rfl) h1
  have b1 := bounds_i64 w1
  clear hA0 hval0
  refine (walk a0 a1 W b0 b1).mono fun e W' ⟨he, bel⟩ => ?_
  subst he
  exact ⟨_, rfl, _, _, _, [], _, [], hW', trodAll_mk1 (shut_bool Try.underlying4 _), (trodAll_cons_mk (shut_int Try.underlying3 w0) (trodAll_cons_mk (shut_int Try.underlying3 w1) trodAll_mk0)), rfl, bel.frame _, fun h => by cases h⟩

theorem over : Rows.blockmapGrowsRow.holds Try.pinned (OpenSpec.ofChange Rows.blockmapGrowsSpec) :=
  OpenClaim.holds_of_wide 6 Try.f6 rfl rfl rfl rfl rfl rfl rfl ⟨rfl, rfl, rfl, rfl, rfl⟩ rfl rfl rfl rfl rfl (by kernel_rfl) Try.func6 (by kernel_rfl)
    (of_decide_eq_true (by kernel_rfl)) (by unfold Func.isWrapper; first | (rw [if_pos (by decide +kernel)]; kernel_rfl) | (rw [if_neg (by decide +kernel)]; exact ⟨rfl, rfl⟩))
    (fun os started H enc _ => lifted os started H enc)

end Go.Proofs.Ytlfdalckhpgpiaa.blockmapGrows

namespace Go.Proofs.Ytlfdalckhpgpiaa
theorem blockmapGrows_holds : Rows.BlockmapGrowsSaid := blockmapGrows.over
#print axioms blockmapGrows_holds
end Go.Proofs.Ytlfdalckhpgpiaa
