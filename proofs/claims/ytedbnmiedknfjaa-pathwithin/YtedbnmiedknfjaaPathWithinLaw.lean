/-
  PathWithin: for all three texts the law answers true: to lie within is an order. No condition.
-/
import Derived.Test.YtedbnmiedknfjaaLawMath
import Derived.ChangeMaps5
namespace Go.Proofs.Ytedbnmiedknfjaa.pathWithin
open Go.ChangeShapes Go.WideShapes Go.ChangeAt Go.RowKit Go.ChangeMaps

set_option maxRecDepth 100000 in
set_option maxHeartbeats 4000000 in
theorem walk (a b c : ByteArray) (w : World) : Calls Try.prog 6 #[.string a, .string b, .string c] w fun e w' => e = .returned (.bool true) ∧ Below w.heap.size w w' := by
  have HW : Hid (∀ s t W, Calls Try.prog 15 #[.string s, .string t] W fun e w' => e = .returned (.tuple #[.bool (wval s t), .int .i64 (werr s t)]) ∧ Below W.heap.size W w') := fun s t W => within_any s t W
  have HS : Hid (∀ s W, Calls Try.prog 9 #[.string s] W fun e w' => ∃ v, e = .returned (.tuple #[v, .int .i64 (serr s)]) ∧ OwnT W.heap.size w' v (sval s) ∧ Below W.heap.size W w') := fun s W => split_any s W
  obtain ⟨X, hX⟩ : ∃ X, X = wval a b := ⟨_, rfl⟩
  obtain ⟨Y, hY⟩ : ∃ X, X = wval b c := ⟨_, rfl⟩
  obtain ⟨Z, hZ⟩ : ∃ X, X = wval a c := ⟨_, rfl⟩
  obtain ⟨V, hV⟩ : ∃ X, X = wval b a := ⟨_, rfl⟩
  obtain ⟨E, hE⟩ : ∃ X, X = werr a b := ⟨_, rfl⟩
  obtain ⟨F, hF⟩ : ∃ X, X = werr b c := ⟨_, rfl⟩
  obtain ⟨G, hG⟩ : ∃ X, X = werr a c := ⟨_, rfl⟩
  obtain ⟨I, hI⟩ : ∃ X, X = werr b a := ⟨_, rfl⟩
  have HQ : Hid (X = wval a b ∧ Y = wval b c ∧ Z = wval a c ∧ V = wval b a ∧ E = werr a b ∧ F = werr b c ∧ G = werr a c ∧ I = werr b a) := ⟨hX, hY, hZ, hV, hE, hF, hG, hI⟩
  clear hX hY hZ hV hE hF hG hI
  have H1 := alive_any w
  go_enter Try.func6, Try.ntmps6
  go_wp2_with fail
  refine H1.mono ?_
  rintro e w1 ⟨rfl, hb1⟩
  have HB1 : Hid (Below w.heap.size w w1) := hb1
  have H2 := HW.out a b w1
  rw [← HQ.out.1, ← HQ.out.2.2.2.2.1] at H2
  clear H1 hb1
  go_wp2_with fail
  refine H2.mono ?_
  rintro e w2 ⟨rfl, hb2⟩
  have HB2 : Hid (Below w.heap.size w w2) := below_any HB1.out hb2
  have H3 := HW.out b c w2
  rw [← HQ.out.2.1, ← HQ.out.2.2.2.2.2.1] at H3
  clear H2 hb2
  go_wp2_with fail
  refine H3.mono ?_
  rintro e w3 ⟨rfl, hb3⟩
  have HB3 : Hid (Below w.heap.size w w3) := below_any HB2.out hb3
  have H4 := HW.out a c w3
  rw [← HQ.out.2.2.1, ← HQ.out.2.2.2.2.2.2.1] at H4
  clear H3 hb3
  go_wp2_with fail
  refine H4.mono ?_
  rintro e w4 ⟨rfl, hb4⟩
  have HB4 : Hid (Below w.heap.size w w4) := below_any HB3.out hb4
  have H5 := HW.out b a w4
  rw [← HQ.out.2.2.2.1, ← HQ.out.2.2.2.2.2.2.2] at H5
  clear H4 hb4
  go_wp2_with fail
  refine H5.mono ?_
  rintro e w5 ⟨rfl, hb5⟩
  have HB5 : Hid (Below w.heap.size w w5) := below_any HB4.out hb5
  clear H5 hb5
  obtain ⟨hX, hY, hZ, hV, hE, hF, hG, hI⟩ := HQ.out
  by_cases hE0 : E = 0
  · by_cases hF0 : F = 0
    · obtain ⟨ha, hb⟩ := werr_zero.1 (hE.symm.trans hE0)
      obtain ⟨_, hc⟩ := werr_zero.1 (hF.symm.trans hF0)
      have hG0 : G = 0 := by rw [hG]; exact werr_zero.2 ⟨ha, hc⟩
      have hI0 : I = 0 := by rw [hI]; exact werr_zero.2 ⟨hb, ha⟩
      have HO : Hid ((X = true → Y = true → Z = true) ∧ (X = true → V = true → sval a = sval b)) := by
        rw [hE] at hE0; rw [hF] at hF0; rw [hG] at hG0; rw [hI] at hI0
        refine ⟨fun h1 h2 => ?_, fun h1 h2 => ?_⟩
        · rw [hZ]; rw [hX] at h1; rw [hY] at h2
          exact (wval_iff hG0).2 (((wval_iff hE0).1 h1).trans ((wval_iff hF0).1 h2))
        · rw [hX] at h1; rw [hV] at h2
          have p1 := (wval_iff hE0).1 h1
          have p2 := (wval_iff hI0).1 h2
          exact p1.eq_of_length (Nat.le_antisymm p1.length_le p2.length_le)
      have H6 := HS.out a w5
      rw [ha] at H6
      have HSB : Hid (∀ W, Calls Try.prog 9 #[.string b] W fun e w' => ∃ v, e = .returned (.tuple #[v, .int .i64 0]) ∧ OwnT W.heap.size w' v (sval b) ∧ Below W.heap.size W w') := fun W => by
        have := HS.out b W
        rwa [hb] at this
      subst hE0 hF0 hG0 hI0
      clear hX hY hZ hV hE hF hG hI ha hb hc HW HS HQ
      go_wp2_with (go_at_call 18; refine (num_any _ _).mono ?_; rintro e wn ⟨rfl, rfl⟩)
      refine H6.mono ?_
      rintro e w6 ⟨v, rfl, hO6, hb6⟩
      have HB6 : Hid (OwnT w5.heap.size w6 v (sval a) ∧ Below w.heap.size w w6) := ⟨hO6, below_any HB5.out hb6⟩
      have H7 := HSB.out w6
      clear H6 hO6 hb6
      go_wp2_with fail
      refine H7.mono ?_
      rintro e w7 ⟨u, rfl, hO7, hb7⟩
      have HB7 : Hid (Below w.heap.size w w7) := below_any HB6.out.2 hb7
      have H8 := same_any w5.heap.size w6.heap.size v u (sval a) (sval b) w7 (HB6.out.1.arg.below hb7) hO7.arg
      clear H7 hO7 hb7
      cases X
      · go_wp2_with (go_at_call 18; refine (num_any _ _).mono ?_; rintro e wn ⟨rfl, rfl⟩)
        go_ret
        exact ⟨rfl, HB7.out⟩
      · cases Y
        · cases V
          · go_wp2_with (go_at_call 18; refine (num_any _ _).mono ?_; rintro e wn ⟨rfl, rfl⟩)
            go_ret
            exact ⟨rfl, HB7.out⟩
          · have hsame := HO.out.2 rfl rfl
            rw [hsame, decide_eq_true rfl] at H8
            clear hsame
            go_wp2_with (go_at_call 18; refine (num_any _ _).mono ?_; rintro e wn ⟨rfl, rfl⟩)
            refine H8.mono ?_
            rintro e w8 ⟨rfl, q, hq⟩
            have HB8 : Hid (Below w.heap.size w w8) := by show Below _ _ _; rw [hq]; exact below_drewN HB7.out _
            clear hq H8
            go_wp2
            go_ret
            exact ⟨rfl, HB8.out⟩
        · obtain rfl : Z = true := HO.out.1 rfl rfl
          cases V
          · go_wp2_with (go_at_call 18; refine (num_any _ _).mono ?_; rintro e wn ⟨rfl, rfl⟩)
            go_ret
            exact ⟨rfl, HB7.out⟩
          · have hsame := HO.out.2 rfl rfl
            rw [hsame, decide_eq_true rfl] at H8
            clear hsame
            go_wp2_with (go_at_call 18; refine (num_any _ _).mono ?_; rintro e wn ⟨rfl, rfl⟩)
            refine H8.mono ?_
            rintro e w8 ⟨rfl, q, hq⟩
            have HB8 : Hid (Below w.heap.size w w8) := by show Below _ _ _; rw [hq]; exact below_drewN HB7.out _
            clear hq H8
            go_wp2
            go_ret
            exact ⟨rfl, HB8.out⟩
    · have hY0 : Y = false := by rw [hY]; exact wval_bad (by rw [← hF]; exact hF0)
      have b2 : (F == 0) = false := beq_false_of_ne hF0
      subst hE0 hY0
      clear hX hY hZ hV hE hF hG hI HW HS HQ hF0
      cases X
      · go_wp2_with (go_at_call 18; refine (num_any _ _).mono ?_; rintro e wn ⟨rfl, rfl⟩)
        go_ret
        exact ⟨rfl, HB5.out⟩
      · go_wp2_with (go_at_call 18; refine (num_any _ _).mono ?_; rintro e wn ⟨rfl, rfl⟩)
        go_ret
        exact ⟨rfl, HB5.out⟩
  · have hX0 : X = false := by rw [hX]; exact wval_bad (by rw [← hE]; exact hE0)
    have b1 : (E == 0) = false := beq_false_of_ne hE0
    subst hX0
    clear hX hY hZ hV hE hF hG hI HW HS HQ hE0
    go_wp2_with (go_at_call 18; refine (num_any _ _).mono ?_; rintro e wn ⟨rfl, rfl⟩)
    go_ret
    exact ⟨rfl, HB5.out⟩

set_option maxRecDepth 100000 in
theorem lifted (os : Os) (started : os.Started) (H : Type) (enc : TypeId × Value → H) :
    ReturnsInHanded {} Try.checked os 6 .any (Rows.pathWithinSpec.pre6 enc Try.prog Try.f6 Rows.pathWithinRow.domain false) (Rows.pathWithinSpec.post enc Try.prog Try.f6 false true false false) := by
  refine returnsInHanded_of_change_sized (C := Try.checked) own started (by kernel_rfl) Try.func6
    (ChangeSpec.witness6 (enc := enc) (C := Try.checked) false ⟨#[], #[.string ⟨#[]⟩, .string ⟨#[]⟩, .string ⟨#[]⟩], []⟩ 8 (by kernel_rfl) (by kernel_rfl) (by kernel_rfl) (by kernel_rfl)) ?_
  intro W base args ds gs before hval0 hW hcnd hsz0 _
  have hval : ∀ (j : Nat) t v, Try.f6.params[j]? = some t → args[j]? = some v → Value.okWide Try.prog W .any base t v := hval0
  have hW' := hW
  obtain ⟨p, q, hA0, hV, rfl, hfz, hnd⟩ := hW
  have hA : DataW.TrodAll enc Try.prog W 0 (fun _ => true) true Try.f6.params.toList args.toList ds p := hA0
  have hsz : (DataW.weightsEach Try.prog (Try.f6.params.toList ++ Rows.pathWithinSpec.plain.varTypes Try.prog) (ds ++ gs)).all (· ≤ reachBytes) = true := hsz0
  clear hsz0
  rw [Try.params6] at hA hval hsz
  obtain ⟨v0, vs0, d0, ds0, p0, q0, hargs, rfl, rfl, h0, r0⟩ := trodAll_cons hA
  obtain ⟨v1, vs1, d1, ds1, p1, q1, rfl, rfl, rfl, h1, r1⟩ := trodAll_cons r0
  obtain ⟨v2, vs2, d2, ds2, p2, q2, rfl, rfl, rfl, h2, r2⟩ := trodAll_cons r1
  obtain ⟨rfl, rfl, rfl⟩ := trodAll_nil r2
  obtain rfl : args = #[v0, v1, v2] := by cases args; simp_all
  obtain ⟨rfl, rfl⟩ := trodVars_none hV
  obtain ⟨t0, rfl, rfl, rfl, z0⟩ := open_string Try.underlying9 (hval 0 9 v0 rfl rfl) h0
  obtain ⟨t1, rfl, rfl, rfl, z1⟩ := open_string Try.underlying9 (hval 1 9 v1 rfl rfl) h1
  obtain ⟨t2, rfl, rfl, rfl, z2⟩ := open_string Try.underlying9 (hval 2 9 v2 rfl rfl) h2
  clear hA0 hval0
  refine (walk t0 t1 t2 W).mono fun e W' ⟨he, bel⟩ => ?_
  subst he
  exact ⟨_, rfl, _, _, _, [], _, [], hW', trodAll_mk1 (shut_bool Try.underlying4 _), (trodAll_cons_mk (shut_string Try.underlying9 z0) (trodAll_cons_mk (shut_string Try.underlying9 z1) (trodAll_cons_mk (shut_string Try.underlying9 z2) trodAll_mk0))), rfl, bel.frame _, fun h => by cases h⟩

theorem over : Rows.pathWithinRow.holds Try.pinned (OpenSpec.ofChange Rows.pathWithinSpec) :=
  OpenClaim.holds_of_wide 6 Try.f6 rfl rfl rfl rfl rfl rfl rfl ⟨rfl, rfl, rfl, rfl, rfl⟩ rfl rfl rfl rfl rfl (by kernel_rfl) Try.func6 (by kernel_rfl)
    (of_decide_eq_true (by kernel_rfl)) (by unfold Func.isWrapper; first | (rw [if_pos (by decide +kernel)]; kernel_rfl) | (rw [if_neg (by decide +kernel)]; exact ⟨rfl, rfl⟩))
    (fun os started H enc _ => lifted os started H enc)

end Go.Proofs.Ytedbnmiedknfjaa.pathWithin

namespace Go.Proofs.Ytedbnmiedknfjaa
theorem pathWithin_holds : Rows.PathWithinSaid := pathWithin.over
#print axioms pathWithin_holds
end Go.Proofs.Ytedbnmiedknfjaa
