/-
  PathTells: for all texts and all lists of texts the law answers true: texts as paths, and names as one, are as the document says; what is handed in stays. No condition.
-/
import Derived.Test.YtedbnmiedknfjaaLawMath
import Derived.ChangeMaps5
namespace Go.Proofs.Ytedbnmiedknfjaa.pathTells
open Go.ChangeShapes Go.WideShapes Go.ChangeAt Go.RowKit Go.ChangeMaps

set_option maxRecDepth 100000 in
set_option maxHeartbeats 4000000 in
theorem walk (s t : ByteArray) (v : Value) (l : List ByteArray) (w : World) (h : ArgT 0 w v l) (hf : l.length * 16 ≤ 140737488351232) : Calls Try.prog 3 #[.string s, .string t, v] w fun e w' => e = .returned (.bool true) ∧ Below w.heap.size w w' := by
  have KL : Hid (∀ V, Below w.heap.size w V → ArgT 0 V v l) := fun V hV => h.below hV
  obtain ⟨A, hA⟩ : ∃ X, X = sval s := ⟨_, rfl⟩
  obtain ⟨F, hF⟩ : ∃ X, X = serr s := ⟨_, rfl⟩
  obtain ⟨C, hC⟩ : ∃ X, X = jval l := ⟨_, rfl⟩
  obtain ⟨G, hG⟩ : ∃ X, X = jerr l := ⟨_, rfl⟩
  obtain ⟨P, hP⟩ : ∃ X, X = ppar s := ⟨_, rfl⟩
  obtain ⟨N, hN⟩ : ∃ X, X = plast s := ⟨_, rfl⟩
  obtain ⟨I, hI⟩ : ∃ X, X = perr s := ⟨_, rfl⟩
  obtain ⟨U, hU⟩ : ∃ X, X = wval s t := ⟨_, rfl⟩
  obtain ⟨K, hK⟩ : ∃ X, X = werr s t := ⟨_, rfl⟩
  have HQ : Hid (A = sval s ∧ F = serr s ∧ C = jval l ∧ G = jerr l ∧ P = ppar s ∧ N = plast s ∧ I = perr s ∧ U = wval s t ∧ K = werr s t) := ⟨hA, hF, hC, hG, hP, hN, hI, hU, hK⟩
  have H1 := copy_any 0 v l w h hf
  clear h hf hA hF hC hG hP hN hI hU hK
  go_enter Try.func3, Try.ntmps3
  go_wp2_with fail
  refine H1.mono ?_
  rintro e w1 ⟨⟨v1, rfl, hO1⟩, hb1⟩
  have HB1 : Hid (Below w.heap.size w w1) := hb1
  have K1 : Hid (∀ V, Below w1.heap.size w1 V → ArgT w.heap.size V v1 l) := fun V hV => hO1.arg.below hV
  have H2 := split_any s w1
  rw [← HQ.out.1, ← HQ.out.2.1] at H2
  clear H1 hO1 hb1
  go_wp2_with fail
  refine H2.mono ?_
  rintro e w2 ⟨v2, rfl, hO2, hb2⟩
  have HB2 : Hid (Below w.heap.size w w2 ∧ Below w1.heap.size w1 w2) := ⟨below_any HB1.out hb2, hb2⟩
  have K2 : Hid (∀ V, Below w2.heap.size w2 V → ArgT w1.heap.size V v2 A) := fun V hV => hO2.arg.below hV
  have H3 := rsplit_any s w2
  rw [← HQ.out.1, ← HQ.out.2.1] at H3
  clear H2 hO2 hb2
  go_wp2_with fail
  refine H3.mono ?_
  rintro e w3 ⟨v3, rfl, hO3, hb3⟩
  have HB3 : Hid (Below w.heap.size w w3 ∧ Below w1.heap.size w1 w3 ∧ Below w2.heap.size w2 w3) := ⟨below_any HB2.out.1 hb3, below_any HB2.out.2 hb3, hb3⟩
  have K3 : Hid (∀ V, Below w3.heap.size w3 V → ArgT w2.heap.size V v3 A) := fun V hV => hO3.arg.below hV
  have H4 := join_any w.heap.size v1 l w3 (K1.out w3 HB3.out.2.1)
  rw [← HQ.out.2.2.1, ← HQ.out.2.2.2.1] at H4
  clear H3 hO3 hb3
  go_wp2_with fail
  refine H4.mono ?_
  rintro e w4 ⟨rfl, hb4⟩
  have HB4 : Hid (Below w.heap.size w w4 ∧ Below w1.heap.size w1 w4 ∧ Below w2.heap.size w2 w4 ∧ Below w3.heap.size w3 w4) := ⟨below_any HB3.out.1 hb4, below_any HB3.out.2.1 hb4, below_any HB3.out.2.2 hb4, hb4⟩
  have H5 := rjoin_any 0 v l w4 (KL.out w4 HB4.out.1)
  rw [← HQ.out.2.2.1, ← HQ.out.2.2.2.1] at H5
  clear H4 hb4
  go_wp2_with fail
  refine H5.mono ?_
  rintro e w5 ⟨rfl, hw5⟩
  have hb5 : Below w4.heap.size w4 w5 := by rw [← hw5]; exact Below.refl _ _
  have HB5 : Hid (Below w.heap.size w w5 ∧ Below w1.heap.size w1 w5 ∧ Below w2.heap.size w2 w5 ∧ Below w3.heap.size w3 w5) := ⟨below_any HB4.out.1 hb5, below_any HB4.out.2.1 hb5, below_any HB4.out.2.2.1 hb5, below_any HB4.out.2.2.2 hb5⟩
  have H6 := parent_any s w5
  rw [← HQ.out.2.2.2.2.1, ← HQ.out.2.2.2.2.2.1, ← HQ.out.2.2.2.2.2.2.1] at H6
  clear H5 hb5 hw5
  go_wp2_with fail
  refine H6.mono ?_
  rintro e w6 ⟨rfl, hb6⟩
  have HB6 : Hid (Below w.heap.size w w6 ∧ Below w1.heap.size w1 w6 ∧ Below w2.heap.size w2 w6 ∧ Below w3.heap.size w3 w6) := ⟨below_any HB5.out.1 hb6, below_any HB5.out.2.1 hb6, below_any HB5.out.2.2.1 hb6, below_any HB5.out.2.2.2 hb6⟩
  have H7 := rparent_any s w6
  rw [← HQ.out.2.2.2.2.1, ← HQ.out.2.2.2.2.2.1, ← HQ.out.2.2.2.2.2.2.1] at H7
  clear H6 hb6
  go_wp2_with fail
  refine H7.mono ?_
  rintro e w7 ⟨rfl, hb7⟩
  have HB7 : Hid (Below w.heap.size w w7 ∧ Below w1.heap.size w1 w7 ∧ Below w2.heap.size w2 w7 ∧ Below w3.heap.size w3 w7) := ⟨below_any HB6.out.1 hb7, below_any HB6.out.2.1 hb7, below_any HB6.out.2.2.1 hb7, below_any HB6.out.2.2.2 hb7⟩
  have H8 := within_any s t w7
  rw [← HQ.out.2.2.2.2.2.2.2.1, ← HQ.out.2.2.2.2.2.2.2.2] at H8
  clear H7 hb7
  go_wp2_with fail
  refine H8.mono ?_
  rintro e w8 ⟨rfl, hb8⟩
  have HB8 : Hid (Below w.heap.size w w8 ∧ Below w1.heap.size w1 w8 ∧ Below w2.heap.size w2 w8 ∧ Below w3.heap.size w3 w8) := ⟨below_any HB7.out.1 hb8, below_any HB7.out.2.1 hb8, below_any HB7.out.2.2.1 hb8, below_any HB7.out.2.2.2 hb8⟩
  have H9 := rwithin_any s t w8
  rw [← HQ.out.2.2.2.2.2.2.2.1, ← HQ.out.2.2.2.2.2.2.2.2] at H9
  clear H8 hb8
  go_wp2_with fail
  refine H9.mono ?_
  rintro e w9 ⟨rfl, hb9⟩
  have HB9 : Hid (Below w.heap.size w w9 ∧ Below w1.heap.size w1 w9 ∧ Below w2.heap.size w2 w9 ∧ Below w3.heap.size w3 w9) := ⟨below_any HB8.out.1 hb9, below_any HB8.out.2.1 hb9, below_any HB8.out.2.2.1 hb9, below_any HB8.out.2.2.2 hb9⟩
  have HA := same_any w1.heap.size w2.heap.size v2 v3 A A w9 (K2.out w9 HB9.out.2.2.1) (K3.out w9 HB9.out.2.2.2)
  rw [decide_eq_true rfl] at HA
  clear H9 hb9
  go_wp2_with fail
  refine HA.mono ?_
  rintro e w10 ⟨rfl, q, hq⟩
  have hb10 : Below w9.heap.size w9 w10 := by rw [hq]; exact below_drewN (Below.refl _ _) _
  have HB10 : Hid (Below w.heap.size w w10 ∧ Below w1.heap.size w1 w10) := ⟨below_any HB9.out.1 hb10, below_any HB9.out.2.1 hb10⟩
  have HS := same_any w.heap.size 0 v1 v l l w10 (K1.out w10 HB10.out.2) (KL.out w10 HB10.out.1)
  rw [decide_eq_true rfl] at HS
  clear HA hq hb10 HQ
  go_wp2_with (go_at_call 18; refine (num_any _ _).mono ?_; rintro e wn ⟨rfl, rfl⟩)
  refine HS.mono ?_
  rintro e w11 ⟨rfl, q11, hq11⟩
  have HB11 : Hid (Below w.heap.size w w11) := by show Below _ _ _; rw [hq11]; exact below_drewN HB10.out.1 _
  have HL := alive_any w11
  clear HS hq11
  go_wp2_with fail
  refine HL.mono ?_
  rintro e w12 ⟨rfl, hb12⟩
  have HB12 : Hid (Below w.heap.size w w12) := below_any HB11.out hb12
  clear HL hb12
  go_wp2
  go_ret
  exact ⟨rfl, HB12.out⟩

set_option maxRecDepth 100000 in
theorem lifted (os : Os) (started : os.Started) (H : Type) (enc : TypeId × Value → H) :
    ReturnsInHanded {} Try.checked os 3 .any (Rows.pathTellsSpec.pre6 enc Try.prog Try.f3 Rows.pathTellsRow.domain false) (Rows.pathTellsSpec.post enc Try.prog Try.f3 false true false false) := by
  refine returnsInHanded_of_change_sized (C := Try.checked) own started (by kernel_rfl) Try.func3
    (ChangeSpec.witness6 (enc := enc) (C := Try.checked) false ⟨#[], #[.string ⟨#[]⟩, .string ⟨#[]⟩, .slice none 0 0], []⟩ 8 (by kernel_rfl) (by kernel_rfl) (by kernel_rfl) (by kernel_rfl)) ?_
  intro W base args ds gs before hval0 hW hcnd hsz0 _
  have hval : ∀ (j : Nat) t v, Try.f3.params[j]? = some t → args[j]? = some v → Value.okWide Try.prog W .any base t v := hval0
  have hW' := hW
  obtain ⟨p, q, hA0, hV, rfl, hfz, hnd⟩ := hW
  have hA : DataW.TrodAll enc Try.prog W 0 (fun _ => true) true Try.f3.params.toList args.toList ds p := hA0
  have hsz : (DataW.weightsEach Try.prog (Try.f3.params.toList ++ Rows.pathTellsSpec.plain.varTypes Try.prog) (ds ++ gs)).all (· ≤ reachBytes) = true := hsz0
  clear hsz0
  rw [Try.params3] at hA hval hsz
  obtain ⟨v0, vs0, d0, ds0, p0, q0, hargs, rfl, rfl, h0, r0⟩ := trodAll_cons hA
  obtain ⟨v1, vs1, d1, ds1, p1, q1, rfl, rfl, rfl, h1, r1⟩ := trodAll_cons r0
  obtain ⟨v2, vs2, d2, ds2, p2, q2, rfl, rfl, rfl, h2, r2⟩ := trodAll_cons r1
  obtain ⟨rfl, rfl, rfl⟩ := trodAll_nil r2
  obtain rfl : args = #[v0, v1, v2] := by cases args; simp_all
  obtain ⟨rfl, rfl⟩ := trodVars_none hV
  obtain ⟨t0, rfl, rfl, rfl, z0⟩ := open_string Try.underlying9 (hval 0 9 v0 rfl rfl) h0
  obtain ⟨t1, rfl, rfl, rfl, z1⟩ := open_string Try.underlying9 (hval 1 9 v1 rfl rfl) h1
  obtain ⟨x2, len2, cap2, rfl⟩ := okWide_slice Try.underlying22 (hval 2 22 v2 rfl rfl)
  have k2 := h2
  have lt2 : ∀ x ∈ p2, x.block < W.heap.size := by obtain ⟨m, hm⟩ := k2; exact DataW.trod_lt m _ _ _ hm
  obtain ⟨m2, hm2⟩ := h2
  obtain ⟨s2, A2, F2'⟩ := textsS.reads hm2
  have F2 := F2' fun n hn => by have := List.all_eq_true.1 hsz _ (DataW.weights_mem_each (j := 2) rfl rfl n hn); simpa using this
  clear hA0 hval0
  refine (walk t0 t1 _ s2 W (texts_of A2) (texts_fit F2)).mono fun e W' ⟨he, bel⟩ => ?_
  subst he
  exact ⟨_, rfl, _, _, _, [], _, [], hW', trodAll_mk1 (shut_bool Try.underlying4 _), (trodAll_cons_mk (shut_string Try.underlying9 z0) (trodAll_cons_mk (shut_string Try.underlying9 z1) (trodAll_cons_mk (Below.trod laidOut (by kernel_rfl) (of_decide_eq_true (by kernel_rfl)) k2 bel lt2) trodAll_mk0))), rfl, bel.frame _, fun h => by cases h⟩

theorem over : Rows.pathTellsRow.holds Try.pinned (OpenSpec.ofChange Rows.pathTellsSpec) :=
  OpenClaim.holds_of_wide 3 Try.f3 rfl rfl rfl rfl rfl rfl rfl ⟨rfl, rfl, rfl, rfl, rfl⟩ rfl rfl rfl rfl rfl (by kernel_rfl) Try.func3 (by kernel_rfl)
    (of_decide_eq_true (by kernel_rfl)) (by unfold Func.isWrapper; first | (rw [if_pos (by decide +kernel)]; kernel_rfl) | (rw [if_neg (by decide +kernel)]; exact ⟨rfl, rfl⟩))
    (fun os started H enc _ => lifted os started H enc)

end Go.Proofs.Ytedbnmiedknfjaa.pathTells

namespace Go.Proofs.Ytedbnmiedknfjaa
theorem pathTells_holds : Rows.PathTellsSaid := pathTells.over
#print axioms pathTells_holds
end Go.Proofs.Ytedbnmiedknfjaa
