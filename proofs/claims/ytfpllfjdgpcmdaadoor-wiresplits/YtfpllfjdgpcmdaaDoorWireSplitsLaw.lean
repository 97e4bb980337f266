/-
  WireSplits, proved: for every texts and every octets (as great as the form reads them): the call returns true, and changes nothing that was in memory; the one listed variable (the handle of the type of errors) starts as the program's text lays it, which the card ties.
-/
import Derived.Test.YtfpllfjdgpcmdaaDoorSplit
import Derived.Test.YtfpllfjdgpcmdaaDoorJoin
import Derived.Test.YtfpllfjdgpcmdaaDoorAlive
import Derived.Test.YtfpllfjdgpcmdaaDoorCards
import Derived.Test.YtfpllfjdgpcmdaaDoorTie
import Derived.Deep.DeepHandedRow
namespace Go.Proofs.YtfpllfjdgpcmdaaDoor.wireSplits
open Go.ChangeShapes Go.WideShapes Go.ChangeAt Go.RowKit
set_option linter.unusedVariables false

set_option maxRecDepth 100000 in
set_option maxHeartbeats 8000000 in
theorem walk (u v : Value) (l : List (List Int)) (bl : List Int) (w : World) (hT : textsS.lies 0 w [u] l) (hA : Arg 0 w v bl) (hs : bl.length ≤ 140737488351232) (hg : Glob w) :
    Calls Tryd.prog 6 #[u, v] w fun e w' => e = .returned (.bool true) ∧ Below w.heap.size w w' := by
  obtain ⟨ta, tc, hu, _⟩ := texts_len hT
  obtain rfl : u = _ := by simpa using hu
  have HT : Hid (textsS.lies 0 w [.slice ta l.length tc] l) := hT
  have HL : Hid (Arg 0 w v bl ∧ bl.length ≤ 140737488351232 ∧ Glob w ∧ Oc bl) := ⟨hA, hs, hg, hA.oct⟩
  obtain ⟨va, vc, rfl, _⟩ := hA.shape
  obtain ⟨ll, hll⟩ : ∃ n, n = bl.length := ⟨_, rfl⟩
  have HLL : Hid (ll = bl.length) := hll
  rw [← hll] at HL ⊢
  obtain ⟨tl, htl⟩ : ∃ n, n = l.length := ⟨_, rfl⟩
  rw [← htl] at HT ⊢
  have HGL : Hid (∀ w', Below w.heap.size w w' → Glob w') := fun w' hb => HL.out.2.2.1.below hb HL.out.2.2.1.lt
  clear hT hA hs hg hll htl hu
  have HA := alive_any w
  go_enter Tryd.func6, Tryd.ntmps6
  go_wp2_with fail
  refine HA.mono ?_
  rintro e w1 ⟨rfl, hb1⟩
  have HB1 : Hid (Below w.heap.size w w1) := hb1
  have HJ := join_any 0 _ l w1 (textsS.below HT.out hb1)
  clear hb1 HA
  go_wp2_with fail
  refine HJ.mono ?_
  rintro e w3 ⟨⟨a3, c3, rfl, ho3⟩, hb3⟩
  have HB3 : Hid (Below w.heap.size w w3) := below_any HB1.out hb3
  have HX : Hid (Own1 w1.heap.size w3 (.slice a3 (joinO l).length c3) (joinO l)) := ho3
  obtain ⟨el, hel⟩ : ∃ n, n = (joinO l).length := ⟨_, rfl⟩
  rw [← hel] at HX ⊢
  have HEL : Hid (el = (joinO l).length) := hel
  clear ho3 hb3 HJ hel HB1
  by_cases hc : joinE l = 0
  case neg =>
    obtain ⟨WN, hWN⟩ : ∃ WN, WN = w3 := ⟨_, rfl⟩
    have HBN : Hid (Below w.heap.size w WN) := by show Below _ _ _; rw [hWN]; exact HB3.out
    rw [← hWN]
    obtain ⟨ce, hce⟩ : ∃ y, y = joinE l := ⟨_, rfl⟩
    rw [← hce] at hc ⊢
    clear hWN HB3 HX hce
    have HD := split_any 0 (.slice va ll vc) bl WN (HL.out.1.below HBN.out) (by have := HL.out.2.1; have := HLL.out; omega) (HGL.out _ HBN.out)
    go_wp2_with (go_at_call 16; refine (num_any _ _).mono ?_; rintro e w4 ⟨rfl, rfl⟩)
    refine HD.mono ?_
    rintro e w7 ⟨⟨ax, cx, rfl, ho7⟩, hb7⟩
    have HB7 : Hid (Below w.heap.size w w7) := below_any HBN.out hb7
    cases hsp : splitR bl with
    | error k =>
      have hk0 : k ≠ 0 := splitR_bad bl k hsp
      have hl8 := run_len Tryd.underlying23 ax 0 cx
      simp only [rsV, rsE, List.length_nil]
      clear ho7 hb7 HD hsp
      go_wp2_with (go_at_call 16; refine (num_any _ _).mono ?_; rintro e w9 ⟨rfl, rfl⟩)
      go_ret
      exact ⟨rfl, HB7.out⟩
    | ok pp =>
      obtain ⟨ts, q⟩ := pp
      obtain ⟨hj1, hj2⟩ := join_split HL.out.2.2.2 hsp
      rw [hsp] at ho7
      simp only [rsV, rsE] at ho7 ⊢
      have HE2 := join_any _ _ ts w7 (textsS.olies ho7)
      rw [hj1, hj2, ← HLL.out] at HE2
      obtain ⟨tl, htl⟩ : ∃ y, y = ts.length := ⟨_, rfl⟩
      rw [← htl] at HE2 ⊢
      clear ho7 hb7 HD hsp htl hj1 hj2
      go_wp2_with (go_at_call 16; refine (num_any _ _).mono ?_; rintro e w9 ⟨rfl, rfl⟩)
      refine HE2.mono ?_
      rintro e w9 ⟨⟨a9, c9, rfl, ho9⟩, hb9⟩
      have hb09 := below_any HB7.out hb9
      have HS := same_any _ 0 _ (.slice va ll vc) bl bl w9 ho9.arg (HL.out.1.below hb09)
      rw [show decide (bl = bl) = true by simp] at HS
      have HB9 : Hid (Below w.heap.size w w9) := hb09
      clear ho9 hb9 hb09 HE2
      go_wp2_with (go_at_call 16; refine (num_any _ _).mono ?_; rintro e w10 ⟨rfl, rfl⟩)
      refine HS.mono ?_
      rintro e w11 ⟨rfl, qq, rfl⟩
      go_wp2
      go_ret
      exact ⟨rfl, below_drewN HB9.out qq⟩
  rw [hc]
  have hsz : (joinO l).length ≤ 140737488355328 := by
    obtain ⟨h1, h2⟩ := joinE_ok hc
    unfold joinO
    rw [if_pos hc]
    have := laidJ_length l h2
    omega
  have HD0 := split_any _ _ (joinO l) w3 HX.out.arg hsz (HGL.out _ HB3.out)
  rw [split_join hc] at HD0
  simp only [rsV, rsE] at HD0
  go_wp2_with (go_at_call 16; refine (num_any _ _).mono ?_; rintro e w4 ⟨rfl, rfl⟩)
  refine HD0.mono ?_
  rintro e w5 ⟨⟨ax, cx, rfl, ho5⟩, hb5⟩
  have HB5 : Hid (Below w.heap.size w w5) := below_any HB3.out hb5
  have HS6 := sameLists_true _ 0 _ _ l w5 (textsS.olies ho5) (textsS.below HT.out HB5.out)
  obtain ⟨n6, hn6⟩ : ∃ n, n = l.length := ⟨_, rfl⟩
  rw [← hn6] at HS6 ⊢
  clear ho5 hb5 HD0 hn6 hsz
  go_wp2_with (go_at_call 16; refine (num_any _ _).mono ?_; rintro e w4 ⟨rfl, rfl⟩)
  refine HS6.mono ?_
  rintro e WN ⟨rfl, q6, hq6⟩
  have HBN : Hid (Below w.heap.size w WN) := by show Below _ _ _; rw [hq6]; exact below_drewN HB5.out q6
  clear hq6 HS6 HX HB3 HB5
  have HD := split_any 0 (.slice va ll vc) bl WN (HL.out.1.below HBN.out) (by have := HL.out.2.1; have := HLL.out; omega) (HGL.out _ HBN.out)
  go_wp2_with (go_at_call 16; refine (num_any _ _).mono ?_; rintro e w4 ⟨rfl, rfl⟩)
  refine HD.mono ?_
  rintro e w7 ⟨⟨ax, cx, rfl, ho7⟩, hb7⟩
  have HB7 : Hid (Below w.heap.size w w7) := below_any HBN.out hb7
  cases hsp : splitR bl with
  | error k =>
    have hk0 : k ≠ 0 := splitR_bad bl k hsp
    have hl8 := run_len Tryd.underlying23 ax 0 cx
    simp only [rsV, rsE, List.length_nil]
    clear ho7 hb7 HD hsp
    go_wp2_with (go_at_call 16; refine (num_any _ _).mono ?_; rintro e w9 ⟨rfl, rfl⟩)
    go_ret
    exact ⟨rfl, HB7.out⟩
  | ok pp =>
    obtain ⟨ts, q⟩ := pp
    obtain ⟨hj1, hj2⟩ := join_split HL.out.2.2.2 hsp
    rw [hsp] at ho7
    simp only [rsV, rsE] at ho7 ⊢
    have HE2 := join_any _ _ ts w7 (textsS.olies ho7)
    rw [hj1, hj2, ← HLL.out] at HE2
    obtain ⟨tl, htl⟩ : ∃ y, y = ts.length := ⟨_, rfl⟩
    rw [← htl] at HE2 ⊢
    clear ho7 hb7 HD hsp htl hj1 hj2
    go_wp2_with (go_at_call 16; refine (num_any _ _).mono ?_; rintro e w9 ⟨rfl, rfl⟩)
    refine HE2.mono ?_
    rintro e w9 ⟨⟨a9, c9, rfl, ho9⟩, hb9⟩
    have hb09 := below_any HB7.out hb9
    have HS := same_any _ 0 _ (.slice va ll vc) bl bl w9 ho9.arg (HL.out.1.below hb09)
    rw [show decide (bl = bl) = true by simp] at HS
    have HB9 : Hid (Below w.heap.size w w9) := hb09
    clear ho9 hb9 hb09 HE2
    go_wp2_with (go_at_call 16; refine (num_any _ _).mono ?_; rintro e w10 ⟨rfl, rfl⟩)
    refine HS.mono ?_
    rintro e w11 ⟨rfl, qq, rfl⟩
    go_wp2
    go_ret
    exact ⟨rfl, below_drewN HB9.out qq⟩

set_option maxRecDepth 100000 in
theorem contract (H : Type) (enc : TypeId × Value → H) (W : World) (base : Nat) (args : Array Value) (ds gs : List (DataW H)) (before : List MemPlace)
    (hval0 : ∀ (j : Nat) t v, Tryd.f6.params[j]? = some t → args[j]? = some v → Value.okWide Tryd.prog W .any base t v)
    (hW : DataW.Whole enc Tryd.prog Tryd.f6.params.toList Rows.wireSplitsSpec.vars false W args.toList ds gs before) 
    (hsz0 : (DataW.weightsEach Tryd.prog (Tryd.f6.params.toList ++ Rows.wireSplitsSpec.plain.varTypes Tryd.prog) (ds ++ gs)).all (· ≤ reachBytes) = true) (hg : Glob W) :
    Calls Tryd.prog 6 args W fun e W' => ∃ v, e = .returned v ∧ Rows.wireSplitsSpec.post enc Tryd.prog Tryd.f6 false true false false W args v W' := by
  have hval := hval0
  have hW' := hW
  obtain ⟨p, q, hA0, hV, rfl, hfz, hnd⟩ := hW
  have hA : DataW.TrodAll enc Tryd.prog W 0 (fun _ => true) true Tryd.f6.params.toList args.toList ds p := hA0
  have hsz := hsz0
  clear hsz0
  rw [Tryd.params6] at hA hval hsz
  obtain ⟨v0, vs0, d0, ds0, p0, q0, hargs, rfl, rfl, h0, r0⟩ := trodAll_cons hA
  obtain ⟨v1, vs1, d1, ds1, p1, q1, rfl, rfl, rfl, h1, r1⟩ := trodAll_cons r0
  obtain ⟨rfl, rfl, rfl⟩ := trodAll_nil r1
  obtain rfl : args = #[v0, v1] := by cases args; simp_all
  obtain ⟨rfl, rfl⟩ := trodVars_none hV
  obtain ⟨x0, len0, cap0, rfl⟩ := okWide_slice Tryd.underlying23 (hval 0 23 v0 rfl rfl)
  have k0 := h0
  have lt0 : ∀ x ∈ p0, x.block < W.heap.size := by obtain ⟨m, hm⟩ := k0; exact DataW.trod_lt m _ _ _ hm
  obtain ⟨m0, hm0⟩ := h0
  obtain ⟨s0, A0, F0'⟩ := textsS.reads hm0
  have F0 := F0' fun n hn => by have := List.all_eq_true.1 hsz _ (DataW.weights_mem_each (j := 0) rfl rfl n hn); simpa using this
  obtain ⟨x1, len1, cap1, rfl⟩ := okWide_slice Tryd.underlying26 (hval 1 26 v1 rfl rfl)
  have k1 := h1
  have lt1 : ∀ x ∈ p1, x.block < W.heap.size := by obtain ⟨m, hm⟩ := k1; exact DataW.trod_lt m _ _ _ hm
  obtain ⟨m1, hm1⟩ := h1
  obtain ⟨s1, A1, F1'⟩ := bytesS.reads hm1
  have F1 := F1' fun n hn => by have := List.all_eq_true.1 hsz _ (DataW.weights_mem_each (j := 1) rfl rfl n hn); simpa using this
  clear hA0 hval0
  refine (walk (.slice x0 len0 cap0) (.slice x1 len1 cap1) s0 s1 W A0 A1 (fits_b F1) hg).mono fun e W' ⟨he, bel⟩ => ?_
  subst he
  exact ⟨_, rfl, _, _, _, [], _, [], hW', trodAll_mk1 (shut_bool Tryd.underlying4 _), (trodAll_cons_mk (Below.trod laidOut (by kernel_rfl) (of_decide_eq_true (by kernel_rfl)) k0 bel lt0) (trodAll_cons_mk (Below.trod laidOut (by kernel_rfl) (of_decide_eq_true (by kernel_rfl)) k1 bel lt1) trodAll_mk0)), rfl, bel.frame _, fun h => by cases h⟩

theorem reads (os : Os) {H : Type} (enc : TypeId × Value → H) : ∃ places, DataW.whole enc Tryd.prog ((laidOf (World.holding Tryd.prog os ⟨#[], #[], []⟩)).forCall (fun _ _ => 0) ⟨#[], #[.slice none 0 0, .slice none 0 0], []⟩).memory Tryd.f6.params.toList Rows.wireSplitsSpec.vars false (#[.slice none 0 0, .slice none 0 0] : Array Value).toList 8 = some ([.nil, .nil], [], places) :=
  ⟨[], by kernel_rfl⟩

set_option maxRecDepth 100000 in
theorem lifted (os : Os) (started : os.Started) (H : Type) (enc : TypeId × Value → H) (F : Stop.Interp) :
    ReturnsInHanded {} Tryd.checked os 6 .any ((OpenSpec.ofChange Rows.wireSplitsSpec).preRow enc Tryd.prog Tryd.f6 Rows.wireSplitsRow.domain false Rows.wireSplitsRow.laid) (((OpenSpec.ofChange Rows.wireSplitsSpec).at F).post enc Tryd.prog Tryd.f6 false true false false) := by
  obtain ⟨places, hx⟩ := reads os enc
  refine returnsInHanded_of_row (C := Tryd.checked) (s := (OpenSpec.ofChange Rows.wireSplitsSpec)) own started (by kernel_rfl) Tryd.func6
    (witness_row_at (enc := enc) (C := Tryd.checked) false (laidOf (World.holding Tryd.prog os ⟨#[], #[], []⟩)) #[.slice none 0 0, .slice none 0 0] rfl (by kernel_rfl) (by kernel_rfl) (by kernel_rfl)
      (OpenSpec.preRow_of_cond 8 hx (by kernel_rfl) (fun k hk => by cases hk) (by kernel_rfl) (laidWorld_met os _))) ?_
  intro W base args ds gs before hval hW _ _ hsz hL _ _
  exact contract H enc W base args ds gs before hval hW hsz (handle_of_laid hL)

theorem said : Rows.WireSplitsSaid :=
  OpenClaim.holds_of_cond 6 Tryd.f6 rfl rfl rfl rfl rfl rfl rfl ⟨rfl, rfl, rfl, rfl, rfl⟩ rfl rfl rfl rfl rfl (by kernel_rfl) Tryd.func6 (by kernel_rfl)
    (of_decide_eq_true (by kernel_rfl)) (by unfold Func.isWrapper; first | (rw [if_pos (by decide +kernel)]; kernel_rfl) | (rw [if_neg (by decide +kernel)]; exact ⟨rfl, rfl⟩))
    (fun os started H enc _ F => by rw [OpenClaim.pre_eq_preRow]; exact lifted os started H enc F)

theorem plain (f : FuncId) (fn : Func) (hf : Tryd.pinned.checked.prog.funcNamed Tryd.f6.name = some f) (hfn : Tryd.pinned.checked.prog.funcs[f]? = some fn) :
    true = Tryd.pinned.checked.prog.looks [] ∧ ∀ (j : Nat) t, fn.params[j]? = some t → Tryd.pinned.checked.prog.wantsStandIn t = false := by
  obtain rfl : f = 6 := Option.some.inj ((show Tryd.prog.funcNamed Tryd.f6.name = some 6 by kernel_rfl).symm.trans hf) |>.symm
  obtain rfl : fn = Tryd.f6 := (Option.some.inj (Tryd.func6.symm.trans hfn)).symm
  refine ⟨by kernel_rfl, fun j t ht => ?_⟩
  rw [Tryd.params6] at ht
  have hm := Array.mem_of_getElem? ht
  simp only [List.mem_toArray, List.mem_cons, List.not_mem_nil, or_false] at hm
  rcases hm with rfl | rfl
  · exact (show Tryd.prog.wantsStandIn 23 = false by kernel_rfl)
  · exact (show Tryd.prog.wantsStandIn 26 = false by kernel_rfl)

theorem card : Rows.WireSplitsCardSaid :=
  Claim7.holds_tied_plain_at .later [] _ _ _ _ said (fun _ h => by cases h) (by kernel_rfl) (fun _ h => by cases h) wireSplits_row_tie rfl ⟨rfl, rfl⟩ (by kernel_rfl) rfl plain (by kernel_rfl)

end Go.Proofs.YtfpllfjdgpcmdaaDoor.wireSplits

namespace Go.Proofs.YtfpllfjdgpcmdaaDoor
theorem wireSplits_holds : Rows.WireSplitsCardSaid := wireSplits.card
#print axioms wireSplits_holds
end Go.Proofs.YtfpllfjdgpcmdaaDoor
