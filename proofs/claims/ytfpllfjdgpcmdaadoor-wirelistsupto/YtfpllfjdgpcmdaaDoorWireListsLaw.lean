/-
  WireLists, proved for what is of bulk at most 1048576 (the second form): for every texts and every octets within that bound the call returns true, and changes nothing that was in memory; the one listed variable (the handle of the type of errors) starts as the program's text lays it, which the card ties.
-/
import Derived.Test.YtfpllfjdgpcmdaaDoorRefSplit
import Derived.Test.YtfpllfjdgpcmdaaDoorRefJoin
import Derived.Test.YtfpllfjdgpcmdaaDoorAlive
import Derived.Test.YtfpllfjdgpcmdaaDoorBulk
import Derived.Test.YtfpllfjdgpcmdaaDoorCards
import Derived.Test.YtfpllfjdgpcmdaaDoorTie
import Derived.Deep.DeepHandedRow
namespace Go.Proofs.YtfpllfjdgpcmdaaDoor.wireLists
open Go.ChangeShapes Go.WideShapes Go.ChangeAt Go.RowKit
set_option linter.unusedVariables false

set_option maxRecDepth 100000 in
set_option maxHeartbeats 8000000 in
theorem walk (u v : Value) (l : List (List Int)) (bl : List Int) (w : World) (hT : textsS.lies 0 w [u] l) (hf : FitsT l) (hA : Arg 0 w v bl) (hs : bl.length ≤ 1048576) (hg : Glob w) :
    Calls Tryd.prog 4 #[u, v] w fun e w' => e = .returned (.bool true) ∧ Below w.heap.size w w' := by
  obtain ⟨ta, tc, hu, _⟩ := texts_len hT
  obtain rfl : u = _ := by simpa using hu
  have HT : Hid (textsS.lies 0 w [.slice ta l.length tc] l ∧ FitsT l) := ⟨hT, hf⟩
  have HL : Hid (Arg 0 w v bl ∧ bl.length ≤ 1048576 ∧ Glob w) := ⟨hA, hs, hg⟩
  obtain ⟨va, vc, rfl, _⟩ := hA.shape
  obtain ⟨ll, hll⟩ : ∃ n, n = bl.length := ⟨_, rfl⟩
  have HLL : Hid (ll = bl.length) := hll
  rw [← hll] at HL ⊢
  obtain ⟨tl, htl⟩ : ∃ n, n = l.length := ⟨_, rfl⟩
  have HTL : Hid (tl = l.length) := htl
  rw [← htl] at HT ⊢
  have hbl : bl.length ≤ 140737488355328 := by omega
  have HC := copyLists_any 0 _ l w HT.out.1 hf
  clear hT hA hs hg hll htl hu hf
  go_enter Tryd.func4, Tryd.ntmps4
  go_wp2_with fail
  refine HC.mono ?_
  rintro e w1 ⟨⟨v1, rfl, ho1⟩, hb1⟩
  obtain ⟨x1, y1, _, hv1, _⟩ := texts_own ho1
  obtain rfl : v1 = _ := by simpa using hv1
  rw [← HTL.out] at ho1 ⊢
  have HB1 : Hid (Below w.heap.size w w1) := hb1
  have HX1 : Hid (∀ w', Below w1.heap.size w1 w' → textsS.lies 0 w' [.slice x1 tl y1] l) := fun w' hb => textsS.below (textsS.weaken (textsS.olies ho1) (Nat.zero_le _)) hb
  have HC2 := copy_any 0 (.slice va ll vc) bl w1 (HL.out.1.below hb1) hbl
  clear ho1 hb1 HC hv1
  go_wp2_with fail
  refine HC2.mono ?_
  rintro e w2 ⟨⟨v2, rfl, ho2⟩, hb2⟩
  obtain ⟨x2, y2, rfl⟩ := ho2.shape
  rw [← HLL.out] at ho2 ⊢
  have HB2 : Hid (Below w.heap.size w w2 ∧ Below w1.heap.size w1 w2) := ⟨below_any HB1.out hb2, hb2⟩
  have HX2 : Hid (∀ w', Below w2.heap.size w2 w' → Arg 0 w' (.slice x2 ll y2) bl) := fun w' hb => (ho2.arg.weaken (Nat.zero_le _)).below hb
  have HJ := join_any 0 (.slice x1 tl y1) l w2 (HX1.out w2 hb2)
  clear ho2 hb2 HC2
  go_wp2_with fail
  refine HJ.mono ?_
  rintro e w3 ⟨⟨x3, y3, rfl, ho3⟩, hb3⟩
  have HB3 : Hid (Below w.heap.size w w3 ∧ Below w1.heap.size w1 w3 ∧ Below w2.heap.size w2 w3) := ⟨below_any HB2.out.1 hb3, below_any HB2.out.2 hb3, hb3⟩
  have HX3 : Hid (∀ w', Below w3.heap.size w3 w' → Arg 0 w' (.slice x3 (joinO l).length y3) (joinO l)) := fun w' hb => (ho3.arg.weaken (Nat.zero_le _)).below hb
  have HRJ := rjoin_any 0 (.slice ta tl tc) l w3 (textsS.below HT.out.1 HB3.out.1)
  obtain ⟨jl, hjl⟩ : ∃ y, y = (joinO l).length := ⟨_, rfl⟩
  obtain ⟨je, hje⟩ : ∃ y, y = joinE l := ⟨_, rfl⟩
  rw [← hjl] at HX3 HRJ ⊢
  rw [← hje] at HRJ ⊢
  clear ho3 hb3 HJ hjl hje HB2
  go_wp2_with fail
  refine HRJ.mono ?_
  rintro e w4 ⟨⟨x4, y4, rfl, ho4⟩, hb4⟩
  have HB4 : Hid (Below w.heap.size w w4 ∧ Below w1.heap.size w1 w4 ∧ Below w2.heap.size w2 w4 ∧ Below w3.heap.size w3 w4) := ⟨below_any HB3.out.1 hb4, below_any HB3.out.2.1 hb4, below_any HB3.out.2.2 hb4, hb4⟩
  have HX4 : Hid (∀ w', Below w4.heap.size w4 w' → Arg 0 w' (.slice x4 jl y4) (joinO l)) := fun w' hb => (ho4.arg.weaken (Nat.zero_le _)).below hb
  have HSP := split_any 0 (.slice x2 ll y2) bl w4 (HX2.out w4 HB4.out.2.2.1) hbl (HL.out.2.2.below HB4.out.1 HL.out.2.2.lt)
  clear ho4 hb4 HRJ HB3
  go_wp2_with fail
  refine HSP.mono ?_
  rintro e w5 ⟨⟨x5, y5, rfl, ho5⟩, hb5⟩
  have HB5 : Hid (Below w.heap.size w w5 ∧ Below w1.heap.size w1 w5 ∧ Below w2.heap.size w2 w5 ∧ Below w3.heap.size w3 w5 ∧ Below w4.heap.size w4 w5) := ⟨below_any HB4.out.1 hb5, below_any HB4.out.2.1 hb5, below_any HB4.out.2.2.1 hb5, below_any HB4.out.2.2.2 hb5, hb5⟩
  have HX5 : Hid (∀ w', Below w5.heap.size w5 w' → textsS.lies 0 w' [.slice x5 (rsV (splitR bl)).length y5] (rsV (splitR bl))) := fun w' hb => textsS.below (textsS.weaken (textsS.olies ho5) (Nat.zero_le _)) hb
  have HRS := rsplit_any 0 (.slice va ll vc) bl w5 (HL.out.1.below HB5.out.1) (by have := HL.out.2.1; have := HLL.out; omega)
  obtain ⟨sl, hsl⟩ : ∃ y, y = (rsV (splitR bl)).length := ⟨_, rfl⟩
  obtain ⟨se, hse⟩ : ∃ y, y = rsE (splitR bl) := ⟨_, rfl⟩
  rw [← hsl] at HX5 HRS ⊢
  rw [← hse] at HRS ⊢
  clear ho5 hb5 HSP hsl hse HB4
  go_wp2_with fail
  refine HRS.mono ?_
  rintro e w6 ⟨⟨x6, y6, rfl, ho6⟩, hb6⟩
  have HB6 : Hid (Below w.heap.size w w6 ∧ Below w1.heap.size w1 w6 ∧ Below w2.heap.size w2 w6 ∧ Below w3.heap.size w3 w6 ∧ Below w4.heap.size w4 w6 ∧ Below w5.heap.size w5 w6) := ⟨below_any HB5.out.1 hb6, below_any HB5.out.2.1 hb6, below_any HB5.out.2.2.1 hb6, below_any HB5.out.2.2.2.1 hb6, below_any HB5.out.2.2.2.2 hb6, hb6⟩
  have HX6 : Hid (textsS.lies 0 w6 [.slice x6 sl y6] (rsV (splitR bl))) := textsS.weaken (textsS.olies ho6) (Nat.zero_le _)
  have HS1 := same_any 0 0 _ _ (joinO l) (joinO l) w6 (HX3.out w6 HB6.out.2.2.2.1) (HX4.out w6 HB6.out.2.2.2.2.1)
  rw [show decide (joinO l = joinO l) = true by simp] at HS1
  clear ho6 hb6 HRS HB5
  go_wp2_with fail
  refine HS1.mono ?_
  rintro e w7 ⟨rfl, q7, hq7⟩
  have hb7 : Below w6.heap.size w6 w7 := by rw [hq7]; exact below_drewN (Below.refl _ _) q7
  have HS2 := sameLists_true 0 0 _ _ _ w7 (HX5.out w7 (below_any HB6.out.2.2.2.2.2 hb7)) (textsS.below HX6.out hb7)
  have HB7 : Hid (Below w6.heap.size w6 w7) := hb7
  clear hq7 hb7 HS1
  go_wp2_with (go_at_call 16; refine (num_any _ _).mono ?_; rintro e w9 ⟨rfl, rfl⟩)
  refine HS2.mono ?_
  rintro e w8 ⟨rfl, q8, hq8⟩
  have hb8 : Below w6.heap.size w6 w8 := by rw [hq8]; exact below_drewN HB7.out q8
  have HS3 := sameLists_true 0 0 (.slice x1 tl y1) (.slice ta tl tc) l w8 (HX1.out w8 (below_any HB6.out.2.1 hb8)) (textsS.below HT.out.1 (below_any HB6.out.1 hb8))
  have HB8 : Hid (Below w6.heap.size w6 w8) := hb8
  clear hq8 hb8 HS2 HB7
  go_wp2_with (go_at_call 16; refine (num_any _ _).mono ?_; rintro e w9 ⟨rfl, rfl⟩)
  refine HS3.mono ?_
  rintro e w9 ⟨rfl, q9, hq9⟩
  have hb9 : Below w6.heap.size w6 w9 := by rw [hq9]; exact below_drewN HB8.out q9
  have HS4 := same_any 0 0 (.slice x2 ll y2) (.slice va ll vc) bl bl w9 (HX2.out w9 (below_any HB6.out.2.2.1 hb9)) (HL.out.1.below (below_any HB6.out.1 hb9))
  rw [show decide (bl = bl) = true by simp] at HS4
  have HB9 : Hid (Below w6.heap.size w6 w9) := hb9
  clear hq9 hb9 HS3 HB8
  go_wp2_with fail
  refine HS4.mono ?_
  rintro e w10 ⟨rfl, q10, hq10⟩
  have hb10 : Below w6.heap.size w6 w10 := by rw [hq10]; exact below_drewN HB9.out q10
  have HB10 : Hid (Below w.heap.size w w10) := below_any HB6.out.1 hb10
  clear hq10 hb10 HS4 HB9
  have HAL := alive_any w10
  go_wp2_with fail
  refine HAL.mono ?_
  rintro e w11 ⟨rfl, hb11⟩
  have HB11 : Hid (Below w.heap.size w w11) := below_any HB10.out hb11
  clear hb11 HAL
  go_wp2
  go_ret
  exact ⟨rfl, HB11.out⟩

set_option maxRecDepth 100000 in
theorem contract (H : Type) (enc : TypeId × Value → H) (W : World) (base : Nat) (args : Array Value) (ds gs : List (DataW H)) (before : List MemPlace)
    (hval0 : ∀ (j : Nat) t v, Tryd.f4.params[j]? = some t → args[j]? = some v → Value.okWide Tryd.prog W .any base t v)
    (hW : DataW.Whole enc Tryd.prog Tryd.f4.params.toList Rows.wireListsSpec.vars false W args.toList ds gs before) (hup : Rows.uptoSmall H (ds ++ gs) = true)
    (hsz0 : (DataW.weightsEach Tryd.prog (Tryd.f4.params.toList ++ Rows.wireListsSpec.plain.varTypes Tryd.prog) (ds ++ gs)).all (· ≤ reachBytes) = true) (hg : Glob W) :
    Calls Tryd.prog 4 args W fun e W' => ∃ v, e = .returned v ∧ Rows.wireListsSpec.post enc Tryd.prog Tryd.f4 false true false false W args v W' := by
  have hval := hval0
  have hW' := hW
  obtain ⟨p, q, hA0, hV, rfl, hfz, hnd⟩ := hW
  have hA : DataW.TrodAll enc Tryd.prog W 0 (fun _ => true) true Tryd.f4.params.toList args.toList ds p := hA0
  have hsz := hsz0
  clear hsz0
  rw [Tryd.params4] at hA hval hsz
  obtain ⟨v0, vs0, d0, ds0, p0, q0, hargs, rfl, rfl, h0, r0⟩ := trodAll_cons hA
  obtain ⟨v1, vs1, d1, ds1, p1, q1, rfl, rfl, rfl, h1, r1⟩ := trodAll_cons r0
  obtain ⟨rfl, rfl, rfl⟩ := trodAll_nil r1
  obtain rfl : args = #[v0, v1] := by cases args; simp_all
  obtain ⟨rfl, rfl⟩ := trodVars_none hV
  obtain ⟨x0, len0, cap0, rfl⟩ := okWide_slice Tryd.underlying23 (hval 0 23 v0 rfl rfl)
  have k0 := h0
  have lt0 : ∀ x ∈ p0, x.block < W.heap.size := by obtain ⟨m, hm⟩ := k0; exact DataW.trod_lt m _ _ _ hm
  obtain ⟨m0, hm0⟩ := h0
  obtain ⟨s0, A0, F0'⟩ := textsS.reads hm0
  have F0 := F0' fun n hn => by have := List.all_eq_true.1 hsz _ (DataW.weights_mem_each (j := 0) rfl rfl n hn); simpa using this
  obtain ⟨x1, len1, cap1, rfl⟩ := okWide_slice Tryd.underlying26 (hval 1 26 v1 rfl rfl)
  have k1 := h1
  have lt1 : ∀ x ∈ p1, x.block < W.heap.size := by obtain ⟨m, hm⟩ := k1; exact DataW.trod_lt m _ _ _ hm
  obtain ⟨m1, hm1⟩ := h1
  obtain ⟨s1, A1, F1'⟩ := bytesS.reads hm1
  have F1 := F1' fun n hn => by have := List.all_eq_true.1 hsz _ (DataW.weights_mem_each (j := 1) rfl rfl n hn); simpa using this
  clear hA0 hval0
  refine (walk (.slice x0 len0 cap0) (.slice x1 len1 cap1) s0 s1 W A0 (fits_t F0) A1 (by have h1 : len1 ≤ Rows.uptoBulk d1 := bulk_len hm1; have h2 := bulk_bound hup; have h3 := arg_len (n0 := 0) (w := W) (x := x1) (len := len1) (cap := cap1) A1; omega) hg).mono fun e W' ⟨he, bel⟩ => ?_
  subst he
  exact ⟨_, rfl, _, _, _, [], _, [], hW', trodAll_mk1 (shut_bool Tryd.underlying4 _), (trodAll_cons_mk (Below.trod laidOut (by kernel_rfl) (of_decide_eq_true (by kernel_rfl)) k0 bel lt0) (trodAll_cons_mk (Below.trod laidOut (by kernel_rfl) (of_decide_eq_true (by kernel_rfl)) k1 bel lt1) trodAll_mk0)), rfl, bel.frame _, fun h => by cases h⟩

theorem reads (os : Os) {H : Type} (enc : TypeId × Value → H) : ∃ places, DataW.whole enc Tryd.prog ((laidOf (World.holding Tryd.prog os ⟨#[], #[], []⟩)).forCall (fun _ _ => 0) ⟨#[], #[.slice none 0 0, .slice none 0 0], []⟩).memory Tryd.f4.params.toList Rows.wireListsSpec.vars false (#[.slice none 0 0, .slice none 0 0] : Array Value).toList 8 = some ([.nil, .nil], [], places) :=
  ⟨[], by kernel_rfl⟩

set_option maxRecDepth 100000 in
theorem lifted (os : Os) (started : os.Started) (H : Type) (enc : TypeId × Value → H) (F : Stop.Interp) :
    ReturnsInHanded {} Tryd.checked os 4 .any ((Rows.OpenSpec.upto Rows.wireListsSpec).preRow enc Tryd.prog Tryd.f4 Rows.wireListsUptoRow.domain false Rows.wireListsUptoRow.laid) (((Rows.OpenSpec.upto Rows.wireListsSpec).at F).post enc Tryd.prog Tryd.f4 false true false false) := by
  obtain ⟨places, hx⟩ := reads os enc
  refine returnsInHanded_of_row (C := Tryd.checked) (s := (Rows.OpenSpec.upto Rows.wireListsSpec)) own started (by kernel_rfl) Tryd.func4
    (witness_row_at (enc := enc) (C := Tryd.checked) false (laidOf (World.holding Tryd.prog os ⟨#[], #[], []⟩)) #[.slice none 0 0, .slice none 0 0] rfl (by kernel_rfl) (by kernel_rfl) (by kernel_rfl)
      (OpenSpec.preRow_of_cond 8 hx (by kernel_rfl) (fun k hk => by cases hk; kernel_rfl) (by kernel_rfl) (laidWorld_met os _))) ?_
  intro W base args ds gs before hval hW _ hcond hsz hL _ _
  exact contract H enc W base args ds gs before hval hW (hcond _ rfl) hsz (handle_of_laid hL)

theorem said : Rows.WireListsUptoSaid :=
  OpenClaim.holds_of_cond 4 Tryd.f4 rfl rfl rfl rfl rfl rfl rfl ⟨rfl, rfl, rfl, rfl, rfl⟩ rfl rfl rfl rfl rfl (by kernel_rfl) Tryd.func4 (by kernel_rfl)
    (of_decide_eq_true (by kernel_rfl)) (by unfold Func.isWrapper; first | (rw [if_pos (by decide +kernel)]; kernel_rfl) | (rw [if_neg (by decide +kernel)]; exact ⟨rfl, rfl⟩))
    (fun os started H enc _ F => by rw [OpenClaim.pre_eq_preRow]; exact lifted os started H enc F)

theorem plain (f : FuncId) (fn : Func) (hf : Tryd.pinned.checked.prog.funcNamed Tryd.f4.name = some f) (hfn : Tryd.pinned.checked.prog.funcs[f]? = some fn) :
    true = Tryd.pinned.checked.prog.looks [] ∧ ∀ (j : Nat) t, fn.params[j]? = some t → Tryd.pinned.checked.prog.wantsStandIn t = false := by
  obtain rfl : f = 4 := Option.some.inj ((show Tryd.prog.funcNamed Tryd.f4.name = some 4 by kernel_rfl).symm.trans hf) |>.symm
  obtain rfl : fn = Tryd.f4 := (Option.some.inj (Tryd.func4.symm.trans hfn)).symm
  refine ⟨by kernel_rfl, fun j t ht => ?_⟩
  rw [Tryd.params4] at ht
  have hm := Array.mem_of_getElem? ht
  simp only [List.mem_toArray, List.mem_cons, List.not_mem_nil, or_false] at hm
  rcases hm with rfl | rfl
  · exact (show Tryd.prog.wantsStandIn 23 = false by kernel_rfl)
  · exact (show Tryd.prog.wantsStandIn 26 = false by kernel_rfl)

theorem card : Rows.WireListsUptoCardSaid :=
  Claim7.holds_tied_plain_at .later [] _ _ _ _ said (fun _ h => by cases h) (by kernel_rfl) (fun _ h => by cases h) wireListsUpto_row_tie rfl ⟨rfl, rfl⟩ (by kernel_rfl) rfl plain (by kernel_rfl)

end Go.Proofs.YtfpllfjdgpcmdaaDoor.wireLists

namespace Go.Proofs.YtfpllfjdgpcmdaaDoor
theorem wireListsUpto_holds : Rows.WireListsUptoCardSaid := wireLists.card
#print axioms wireListsUpto_holds
end Go.Proofs.YtfpllfjdgpcmdaaDoor
