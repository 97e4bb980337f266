/-
  PathParent: for every text the law answers true: a path's parent and its last name are the path; the parent has it within, and it has not the parent. No condition.
-/
import Derived.Test.YtedbnmiedknfjaaLawMath
import Derived.ChangeMaps5
namespace Go.Proofs.Ytedbnmiedknfjaa.pathParent
open Go.ChangeShapes Go.WideShapes Go.ChangeAt Go.RowKit Go.ChangeMaps

/-- append(out, s) under a guard that is met. -/
theorem push_want {ops : Array Oper} {rest : List Oper} {o : Oper} {a : Act} {Q : Exit → Act → World → Prop} (hgd : Region.wanted o (yielded ops a.tmps) = true) (s x : Operand) (ho : o.op = .call { callee := .builtin .append, args := #[s, x], argTypes := #[22, 22] })
    (base : Nat) (v : Value) (l : List ByteArray) (n : Nat) (hn : l.length = n) (p : ByteArray) (wr : World) (hs : a.eval s = v) (hO : OwnT base wr v l) (hx : a.eval x = .slice (some ⟨wr.heap.size, 0, none⟩) 1 1) (hp : p.size ≤ maxLen) (hlen : n < 128) (hb : base ≤ wr.heap.size)
    (h : ∀ g cap w', OwnT base w' (.slice (some ⟨g, 0, none⟩) (n + 1) cap) (l ++ [p]) → (wr.alloc (.cells #[.string p] 9)).grownBy w' v.ownBlock → wpList Try.prog ops Q rest (a.put o.dst (.slice (some ⟨g, 0, none⟩) (n + 1) cap)) w') :
    wpList Try.prog ops Q (o :: rest) a (wr.alloc (.cells #[.string p] 9)) := by
  subst hn
  obtain ⟨i9, hi9, hz0, hz1, hz2⟩ := info_parts Try.info9
  refine BigFrame.wpList_want hgd fun K hK => ?_
  refine wp_append_lies _ s x 22 ho base 9 i9 _ 1 16 Try.underlying22 hi9 hz0 hz1 hz2 rfl (by omega) v l.length (tv l) hs (hO.1.alloc _) ⟨wr.heap.size, 0, none⟩ 1 1 [.string p] hx (by rfl) (World.news_of_block (cs := #[.string p]) (t := 9) (fr := (0, 0)) (heap_alloc_new wr _)) (by simp [Value.oneCell']) (by omega) (by unfold maxLen; omega) (by omega) (by simp; omega) (wr.heap.size + 1) (by simp) ?_
  intro g cap w' h1 h2 _ _
  refine hK _ _ (h g cap w' ⟨?_, hO.2.snoc hp⟩ h2)
  rw [List.length_append]
  simpa [tv] using h1

set_option maxRecDepth 100000 in
set_option maxHeartbeats 4000000 in
theorem walk (s : ByteArray) (w : World) : Calls Try.prog 5 #[.string s] w fun e w' => e = .returned (.bool true) ∧ Below w.heap.size w w' := by
  obtain ⟨P, hP⟩ : ∃ X, X = ppar s := ⟨_, rfl⟩
  obtain ⟨N, hN⟩ : ∃ X, X = plast s := ⟨_, rfl⟩
  obtain ⟨E, hE⟩ : ∃ X, X = perr s := ⟨_, rfl⟩
  obtain ⟨F, hF⟩ : ∃ X, X = serr s := ⟨_, rfl⟩
  obtain ⟨L, hL⟩ : ∃ X, X = sval s := ⟨_, rfl⟩
  have HQ : Hid (P = ppar s ∧ N = plast s ∧ E = perr s ∧ F = serr s ∧ L = sval s) := ⟨hP, hN, hE, hF, hL⟩
  clear hP hN hE hF hL
  have H1 := alive_any w
  go_enter Try.func5, Try.ntmps5
  go_wp2_with fail
  refine H1.mono ?_
  rintro e w1 ⟨rfl, hb1⟩
  have HB1 : Hid (Below w.heap.size w w1) := hb1
  have H2 := parent_any s w1
  rw [← HQ.out.1, ← HQ.out.2.1, ← HQ.out.2.2.1] at H2
  clear H1 hb1
  go_wp2_with fail
  refine H2.mono ?_
  rintro e w2 ⟨rfl, hb2⟩
  have HB2 : Hid (Below w.heap.size w w2) := below_any HB1.out hb2
  have H3 := split_any s w2
  rw [← HQ.out.2.2.2.1, ← HQ.out.2.2.2.2] at H3
  clear H2 hb2
  go_wp2_with fail
  refine H3.mono ?_
  rintro e w3 ⟨v, rfl, hO3, hb3⟩
  have HB3 : Hid (Below w.heap.size w w3) := below_any HB2.out hb3
  have K3 : Hid (∀ V, Below w3.heap.size w3 V → ArgT w2.heap.size V v L) := fun V hV => hO3.arg.below hV
  clear H3 hO3 hb3
  obtain ⟨hP, hN, hE, hF, hL⟩ := HQ.out
  by_cases hs : serr s = 0
  · by_cases hl : sval s = []
    · have h1 : perr s = 108 := by simp [perr, hs, hl]
      have hP' : P = ⟨#[]⟩ := by rw [hP, ppar, h1]; rfl
      have hN' : N = ⟨#[]⟩ := by rw [hN, plast, h1]; rfl
      have hE' : E = 108 := by rw [hE, h1]
      have hF' : F = 0 := by rw [hF, hs]
      have hL' : L = [] := by rw [hL, hl]
      subst hP' hN' hE' hF' hL'
      obtain ⟨a, c, rfl, _⟩ := (K3.out w3 (Below.refl _ _)).shape
      have hr := run_len Try.underlying22 a 0 c
      clear hP hN hE hF hL hs hl h1 HQ K3
      go_wp2_with (go_at_call 18; refine (num_any _ _).mono ?_; rintro e wn ⟨rfl, rfl⟩)
      go_ret
      exact ⟨rfl, HB3.out⟩
    · obtain ⟨m, hm⟩ : ∃ m, L.length = m + 1 := ⟨L.length - 1, by have := List.length_pos_iff.2 hl; rw [hL]; omega⟩
      obtain ⟨x, hx⟩ := get_lt (l := L) (k := m) (by omega)
      have h1 : perr s = 0 := by simp [perr, hs, hl]
      have hj := join_part hs m
      have hPt : P = jt (L.take m) := by
        rw [hP, ppar, h1, if_pos rfl, ← hL, hm, Nat.add_sub_cancel]
        rw [← hL] at hj
        exact jval_zero hj.1
      have hN' : N = x := by
        rw [hN, plast, h1, if_pos rfl, ← hL, hm]
        simp [List.getD, hx]
      have hE' : E = 0 := by rw [hE, h1]
      have hF' : F = 0 := by rw [hF, hs]
      rw [← hL] at hj
      obtain ⟨g1, g2⟩ := split_jt hj.1
      rw [← hPt] at g1 g2
      have hW1 : werr P s = 0 := werr_zero.2 ⟨g1, hs⟩
      have hW2 : werr s P = 0 := werr_zero.2 ⟨hs, g1⟩
      have hV1 : wval P s = true := (wval_iff hW1).2 (by rw [g2, ← hL]; exact List.take_prefix _ _)
      have hV2 : wval s P = false := by
        rw [Bool.eq_false_iff]
        intro hc
        have h2 := ((wval_iff hW2).1 hc).length_le
        rw [g2, ← hL, List.length_take] at h2
        omega
      have HF : Hid (L = L.take m ++ [x] ∧ L.length = m + 1 ∧ m ≤ 8) := by
        refine ⟨?_, hm, ?_⟩
        · conv => lhs; rw [← List.take_of_length_le (l := L) (i := m + 1) (by omega)]
          exact take_snoc hx
        · have h4 := (serr_zero.1 hs).2.2.2
          rw [← sval_zero hs, ← hL] at h4
          omega
      have H4 := split_any P w3
      rw [g1, g2] at H4
      have HW1 : Hid (∀ W, Calls Try.prog 15 #[.string P, .string s] W fun e w' => e = .returned (.tuple #[.bool true, .int .i64 0]) ∧ Below W.heap.size W w') := fun W => by
        have := within_any P s W
        rwa [hV1, hW1] at this
      have HW2 : Hid (∀ W, Calls Try.prog 15 #[.string s, .string P] W fun e w' => e = .returned (.tuple #[.bool false, .int .i64 0]) ∧ Below W.heap.size W w') := fun W => by
        have := within_any s P W
        rwa [hV2, hW2] at this
      subst hN' hE' hF'
      clear hP hN hE hF hL hs hl h1 HQ hx hm hj hPt g1 g2 hW1 hW2 hV1 hV2
      go_wp2_with (go_at_call 18; refine (num_any _ _).mono ?_; rintro e wn ⟨rfl, rfl⟩)
      refine H4.mono ?_
      rintro e w4 ⟨u, rfl, hO4, hb4⟩
      have HB4 : Hid (Below w.heap.size w w4 ∧ Below w3.heap.size w3 w4) := ⟨below_any HB3.out hb4, hb4⟩
      have K4 : Hid (∀ V, Below w4.heap.size w4 V → ArgT w3.heap.size V u (L.take m)) := fun V hV => hO4.arg.below hV
      have H5 := HW1.out w4
      clear H4 hO4 hb4 HW1
      go_wp2_with fail
      refine H5.mono ?_
      rintro e w5 ⟨rfl, hb5⟩
      have HB5 : Hid (Below w.heap.size w w5 ∧ Below w3.heap.size w3 w5 ∧ Below w4.heap.size w4 w5) := ⟨below_any HB4.out.1 hb5, below_any HB4.out.2 hb5, hb5⟩
      have H6 := HW2.out w5
      clear H5 hb5 HW2
      go_wp2_with fail
      refine H6.mono ?_
      rintro e w6 ⟨rfl, hb6⟩
      have HB6 : Hid (Below w.heap.size w w6 ∧ Below w3.heap.size w3 w6 ∧ Below w4.heap.size w4 w6) := ⟨below_any HB5.out.1 hb6, below_any HB5.out.2.1 hb6, below_any HB5.out.2.2 hb6⟩
      have H7 := copy_any w3.heap.size u (L.take m) w6 (K4.out w6 HB6.out.2.2) (by rw [List.length_take]; have := HF.out.2.2; omega)
      clear H6 hb6
      go_wp2_with (go_at_call 18; refine (num_any _ _).mono ?_; rintro e wn ⟨rfl, rfl⟩)
      refine H7.mono ?_
      rintro e w7 ⟨⟨v7, rfl, hO7⟩, hb7⟩
      have HB7 : Hid (Below w.heap.size w w7 ∧ Below w3.heap.size w3 w7 ∧ OwnT w6.heap.size w7 v7 (L.take m) ∧ Below w6.heap.size w6 w7) := ⟨below_any HB6.out.1 hb7, below_any HB6.out.2.1 hb7, hO7, hb7⟩
      have HN : Hid (N.size ≤ maxLen) := by
        have := (K3.out w3 (Below.refl _ _)).2 N (by rw [HF.out.1]; simp)
        exact this
      clear H7 hO7 hb7
      obtain ⟨a7, c7, rfl⟩ := HB7.out.2.2.1.shape
      have hml : (L.take m).length = m := by rw [List.length_take]; have := HF.out.2.1; omega
      have HML : Hid ((L.take m).length = m) := hml
      rw [hml] at HB7 ⊢
      clear hml
      go_wp2_with (at_builtin; refine push_want (by rfl) _ _ (by rfl) w6.heap.size _ (L.take m) m HML.out N w7 (by rfl) HB7.out.2.2.1 (by rfl) HN.out (by have := HF.out.2.2; omega) HB7.out.2.2.2.size ?_; intro g cap w8 hO8 hg8)
      have HB8 : Hid (Below w.heap.size w w8 ∧ Below w3.heap.size w3 w8) := by
        have e1 : Below w6.heap.size w6 w8 := below_push HB7.out.2.2.2 HB7.out.2.2.1 hg8 (Nat.le_refl _) HB7.out.2.2.2.size
        exact ⟨below_any HB6.out.1 e1, below_any HB6.out.2.1 e1⟩
      have H9 := same_any w6.heap.size w2.heap.size (.slice (some ⟨g, 0, none⟩) (m + 1) cap) v (L.take m ++ [N]) L w8 hO8.arg (K3.out w8 HB8.out.2)
      rw [decide_eq_true HF.out.1.symm] at H9
      clear hO8 hg8
      go_wp2_with fail
      refine H9.mono ?_
      rintro e w9 ⟨rfl, q, hq⟩
      have HB9 : Hid (Below w.heap.size w w9) := by show Below _ _ _; rw [hq]; exact below_drewN HB8.out.1 _
      clear H9 hq
      go_wp2
      go_ret
      exact ⟨rfl, HB9.out⟩
  · have h1 : perr s = serr s := by simp [perr, hs]
    have hP' : P = ⟨#[]⟩ := by rw [hP, ppar, h1, if_neg hs]
    have hN' : N = ⟨#[]⟩ := by rw [hN, plast, h1, if_neg hs]
    have hE' : E = F := by rw [hE, h1, hF]
    have hF0 : F ≠ 0 := by rw [hF]; exact hs
    have b0 : (F == 0) = false := beq_false_of_ne hF0
    subst hP' hN' hE'
    clear hP hN hE hF hL hs h1 HQ hF0
    go_wp2_with (go_at_call 18; refine (num_any _ _).mono ?_; rintro e wn ⟨rfl, rfl⟩)
    go_ret
    exact ⟨rfl, HB3.out⟩

set_option maxRecDepth 100000 in
theorem lifted (os : Os) (started : os.Started) (H : Type) (enc : TypeId × Value → H) :
    ReturnsInHanded {} Try.checked os 5 .any (Rows.pathParentSpec.pre6 enc Try.prog Try.f5 Rows.pathParentRow.domain false) (Rows.pathParentSpec.post enc Try.prog Try.f5 false true false false) := by
  refine returnsInHanded_of_change_sized (C := Try.checked) own started (by kernel_rfl) Try.func5
    (ChangeSpec.witness6 (enc := enc) (C := Try.checked) false ⟨#[], #[.string ⟨#[]⟩], []⟩ 8 (by kernel_rfl) (by kernel_rfl) (by kernel_rfl) (by kernel_rfl)) ?_
  intro W base args ds gs before hval0 hW hcnd hsz0 _
  have hval : ∀ (j : Nat) t v, Try.f5.params[j]? = some t → args[j]? = some v → Value.okWide Try.prog W .any base t v := hval0
  have hW' := hW
  obtain ⟨p, q, hA0, hV, rfl, hfz, hnd⟩ := hW
  have hA : DataW.TrodAll enc Try.prog W 0 (fun _ => true) true Try.f5.params.toList args.toList ds p := hA0
  have hsz : (DataW.weightsEach Try.prog (Try.f5.params.toList ++ Rows.pathParentSpec.plain.varTypes Try.prog) (ds ++ gs)).all (· ≤ reachBytes) = true := hsz0
  clear hsz0
  rw [Try.params5] at hA hval hsz
  obtain ⟨v0, vs0, d0, ds0, p0, q0, hargs, rfl, rfl, h0, r0⟩ := trodAll_cons hA
  obtain ⟨rfl, rfl, rfl⟩ := trodAll_nil r0
  obtain rfl : args = #[v0] := by cases args; simp_all
  obtain ⟨rfl, rfl⟩ := trodVars_none hV
  obtain ⟨t0, rfl, rfl, rfl, z0⟩ := open_string Try.underlying9 (hval 0 9 v0 rfl rfl) h0
  clear hA0 hval0
  refine (walk t0 W).mono fun e W' ⟨he, bel⟩ => ?_
  subst he
  exact ⟨_, rfl, _, _, _, [], _, [], hW', trodAll_mk1 (shut_bool Try.underlying4 _), (trodAll_cons_mk (shut_string Try.underlying9 z0) trodAll_mk0), rfl, bel.frame _, fun h => by cases h⟩

theorem over : Rows.pathParentRow.holds Try.pinned (OpenSpec.ofChange Rows.pathParentSpec) :=
  OpenClaim.holds_of_wide 5 Try.f5 rfl rfl rfl rfl rfl rfl rfl ⟨rfl, rfl, rfl, rfl, rfl⟩ rfl rfl rfl rfl rfl (by kernel_rfl) Try.func5 (by kernel_rfl)
    (of_decide_eq_true (by kernel_rfl)) (by unfold Func.isWrapper; first | (rw [if_pos (by decide +kernel)]; kernel_rfl) | (rw [if_neg (by decide +kernel)]; exact ⟨rfl, rfl⟩))
    (fun os started H enc _ => lifted os started H enc)

end Go.Proofs.Ytedbnmiedknfjaa.pathParent

namespace Go.Proofs.Ytedbnmiedknfjaa
theorem pathParent_holds : Rows.PathParentSaid := pathParent.over
#print axioms pathParent_holds
end Go.Proofs.Ytedbnmiedknfjaa
