/-
  WireOwn, proved: for every record of the document (as great as the form reads it): the call returns true, and changes nothing that was in memory; the one listed variable (the handle of the type of errors) starts as the program's text lays it, which the card ties.
-/
import Derived.Test.YtfpllfjdgpcmdabDoorSpoil
import Derived.Test.YtfpllfjdgpcmdabDoorAlive
import Derived.Test.YtfpllfjdgpcmdabDoorFits
import Derived.Test.YtfpllfjdgpcmdabDoorCards
import Derived.Test.YtfpllfjdgpcmdabDoorTie
import Derived.Deep.DeepHandedRow
namespace Go.Proofs.YtfpllfjdgpcmdabDoor.wireOwn
open Go.ChangeShapes Go.WideShapes Go.ChangeAt Go.RowKit
set_option linter.unusedVariables false

set_option maxRecDepth 100000 in
set_option maxHeartbeats 8000000 in
theorem walk (us : List Value) (r : Rc) (w : World) (h : recD.lies 0 w us r) (hf : FitsR r) (hg : Glob w) :
    Calls Tryd.prog 3 #[.agg us.toArray] w fun e w' => e = .returned (.bool true) ∧ Below w.heap.size w w' := by
  obtain ⟨a, c, b2, d, rfl, _⟩ := rec_view h
  have HR : Hid (recF.lies 0 w [.int .i64 r.1, .slice a r.2.1.length c, .slice b2 r.2.2.length d] r ∧ FitsR r ∧ Glob w) := ⟨h, hf, hg⟩
  have HRI : Hid ((∀ x ∈ r.2.1, I64 x) ∧ ∀ t ∈ r.2.2, Oc t) := rec_ints (n := 0) (w := w) h
  obtain ⟨W, hW⟩ : ∃ W, W = w.alloc (.cells #[.int .i64 r.1, .slice a r.2.1.length c, .slice b2 r.2.2.length d] 25) := ⟨_, rfl⟩
  have hbW : Below w.heap.size w W := by rw [hW]; exact (Below.refl _ w).alloc (Nat.le_refl _) _
  have hP : Box W w.heap.size 25 #[.int .i64 r.1, .slice a r.2.1.length c, .slice b2 r.2.2.length d] := by rw [hW]; exact Box.new w 25 _
  have HW : Hid (Below w.heap.size w W ∧ Box W w.heap.size 25 #[.int .i64 r.1, .slice a r.2.1.length c, .slice b2 r.2.2.length d]) := ⟨hbW, hP⟩
  obtain ⟨n, hn⟩ : ∃ n, n = r.2.1.length := ⟨_, rfl⟩
  obtain ⟨m, hm⟩ : ∃ n, n = r.2.2.length := ⟨_, rfl⟩
  obtain ⟨k, hkk⟩ : ∃ k, k = r.1 := ⟨_, rfl⟩
  have HNM : Hid (n = r.2.1.length ∧ m = r.2.2.length ∧ k = r.1) := ⟨hn, hm, hkk⟩
  rw [← hn, ← hm, ← hkk] at HR HW hW ⊢
  clear h hf hbW hP hn hm hkk hg
  have HA := alive_any W
  go_enter Tryd.func3, Tryd.ntmps3
  go_wp2_with fail
  rw [← hW]
  clear hW
  refine HA.mono ?_
  rintro e w1 ⟨rfl, hb1⟩
  have hP1 := HW.out.2.below hb1 HW.out.2.lt
  have HB1 : Hid (Below w.heap.size w w1 ∧ Box w1 w.heap.size 25 #[.int .i64 k, .slice a n c, .slice b2 m d]) := ⟨below_any HW.out.1 hb1, hP1⟩
  obtain ⟨g0, g1, g2, _⟩ := hP1.three
  clear hP1 hb1 HA HW
  have HF := of_any 0 [.int .i64 k, .slice a n c, .slice b2 m d] r w1 (recF.keep HR.out.1 (.of_below HB1.out.1)) HR.out.2.1
  go_wp2_with fail
  refine HF.mono ?_
  rintro e w2 ⟨⟨us2, rfl, ho2⟩, hb2⟩
  obtain ⟨ax, cx, ay, cy, rfl⟩ := rec_oview ho2
  rw [← HNM.out.1, ← HNM.out.2.1, ← HNM.out.2.2] at ho2 ⊢
  obtain ⟨x2, y2, hu2, hI2, hT2, _⟩ := rec_own ho2
  obtain rfl : y2 = .slice ay m cy := ((List.cons.inj (List.cons.inj (List.cons.inj hu2).2).2).1).symm
  obtain ⟨W3, hW3⟩ : ∃ W3, W3 = w2.alloc (.cells #[.int .i64 k, .slice ax n cx, .slice ay m cy] 27) := ⟨_, rfl⟩
  have hb3 : Below w2.heap.size w2 W3 := by rw [hW3]; exact (Below.refl _ w2).alloc (Nat.le_refl _) _
  have hB3 : Box W3 w2.heap.size 27 #[.int .i64 k, .slice ax n cx, .slice ay m cy] := by rw [hW3]; exact Box.new w2 27 _
  have HB3 : Hid (Below w.heap.size w W3 ∧ Box W3 w.heap.size 25 #[.int .i64 k, .slice a n c, .slice b2 m d] ∧ Box W3 w2.heap.size 27 #[.int .i64 k, .slice ax n cx, .slice ay m cy]) :=
    ⟨below_any (below_any HB1.out.1 hb2) hb3, (HB1.out.2.below hb2 HB1.out.2.lt).below hb3 (by have := (HB1.out.2.below hb2 HB1.out.2.lt).lt; omega), hB3⟩
  have HRW : Hid (Raw w1.heap.size w2.heap.size W3 (.slice ay m cy) m ∧ w.heap.size < w1.heap.size ∧ w1.heap.size ≤ w2.heap.size ∧ w2.heap.size < W3.heap.size) := by
    refine ⟨?_, HB1.out.2.lt, hb2.size, hB3.lt⟩
    have := Raw.of hT2
    rw [← HNM.out.2.1] at this
    exact this.same (.of_below hb3)
  have HE := enc_any _ _ r W3 (recF.olies (recF.osame ho2 (.of_below hb3)))
  obtain ⟨s0, s1, s2, _⟩ := hB3.three
  rw [hW3] at s0 s1 s2
  clear ho2 hb2 HF g0 g1 g2 hu2 hI2 hT2 hb3 hB3 HB1
  go_wp2_with fail
  rw [← hW3]
  clear hW3 s0 s1 s2
  refine HE.mono ?_
  rintro e w4 ⟨⟨a4, c4, rfl, ho4⟩, hb4⟩
  have HB4 : Hid (Below w.heap.size w w4) := below_any HB3.out.1 hb4
  obtain ⟨el, hel⟩ : ∃ n, n = (encO r).length := ⟨_, rfl⟩
  have HEL : Hid (el = (encO r).length) := hel
  rw [← hel] at ho4 ⊢
  have hll := run_len Tryd.underlying29 a4 el c4
  by_cases hc : chkR r = 0
  case neg =>
    have he : el = 0 := by rw [hel]; unfold encO; rw [if_neg hc]; rfl
    subst he
    obtain ⟨ce, hce⟩ : ∃ y, y = chkR r := ⟨_, rfl⟩
    rw [← hce] at hc ⊢
    clear ho4 hb4 HE hel hce
    go_wp2_with (go_at_call 7; refine (num_any _ _).mono ?_; rintro e w5 ⟨rfl, rfl⟩)
    go_ret
    exact ⟨rfl, HB4.out⟩
  rw [hc]
  have HX : Hid (Own1 W3.heap.size w4 (.slice a4 el c4) (encO r) ∧ decE (encO r) = 0 ∧ decV (encO r) = r) := ⟨ho4, dec_enc hc HRI.out.1 HRI.out.2⟩
  have HSP : Hid (SP w w4 w1.heap.size w2.heap.size #[.int .i64 k, .slice a n c, .slice b2 m d] (.slice ay m cy) m w4 ∧ Box w4 w2.heap.size 27 #[.int .i64 k, .slice ax n cx, .slice ay m cy]) := by
    refine ⟨⟨fun _ _ _ => rfl, Nat.le_refl _, HB4.out, HB3.out.2.1.below hb4 HB3.out.2.1.lt, HRW.out.1.same (.of_below hb4)⟩, HB3.out.2.2.below hb4 HB3.out.2.2.lt⟩
  have hlm := run_len Tryd.underlying23 ay m cy
  have hmm : m ≤ 64 := by rw [HNM.out.2.1]; exact (chk_ok hc).2.2.2.1
  clear ho4 hb4 HE hel hc HB4
  go_wp2_with (go_at_call 7; refine (num_any _ _).mono ?_; rintro e w5 ⟨rfl, rfl⟩)
  go_loopw [6] (fun i wr => ∃ j : Nat, j ≤ m ∧ i = .int .i64 j ∧ Hid (SP w w4 w1.heap.size w2.heap.size #[.int .i64 k, .slice a n c, .slice b2 m d] (.slice ay m cy) m wr)) (fun i _ => m - (intOf i).toNat)
  case atStart => exact ⟨0, Nat.zero_le _, rfl, HSP.out.1⟩
  case round =>
    obtain ⟨j, hj, rfl, HK⟩ := hrel
    obtain ⟨p0, p1, p2, _⟩ := (HK.out.keep HSP.out.2 (Nat.le_refl _)).three
    by_cases hlt : j < m
    · have hji : (j : Int) < (m : Int) := by omega
      obtain ⟨bb, oo, ta, tm, tc, hix, gx, hE8, hlt8⟩ := HK.out.raw.at j hlt
      have HS := spoil_eight _ _ _ wr hE8
      have HE8 : Hid (Eight w1.heap.size wr (.slice ta tm tc) tm ∧ ∀ g, (Value.slice ta tm tc).ownBlock = some g → g < w2.heap.size) := ⟨hE8, hlt8⟩
      clear hE8 hlt8
      go_wp2_with fail
      refine HS.mono ?_
      rintro e w6 ⟨rfl, hgr, hEE⟩
      have HK6 : Hid (SP w w4 w1.heap.size w2.heap.size #[.int .i64 k, .slice a n c, .slice b2 m d] (.slice ay m cy) m w6) := HK.out.step (by have := HRW.out.2.1; omega) HE8.out.1 HE8.out.2 hgr hEE
      clear hgr hEE HS gx hix p0 p1 p2
      go_wp2
      go_roundw
      case rel => exact ⟨j + 1, by omega, by go_num, HK6⟩
      case measure => simp [intOf]; omega
    · obtain rfl : j = m := by omega
      have hN3 : w2.heap.size ≤ W3.heap.size := by have := HRW.out.2.2.2; omega
      have hOb : Own1 W3.heap.size wr (.slice a4 el c4) (encO r) := by
        refine bytesS.osame HX.out.1 fun q hq hl => HK.out.same q (by omega) hl
      have HD := dec_any _ _ (encO r) wr hOb.arg (by have := enc_len (r := r) HRI.out.1; omega) (HR.out.2.2.below HK.out.bel HR.out.2.2.lt)
      rw [HX.out.2.1, HX.out.2.2] at HD
      have HOb : Hid (Own1 W3.heap.size wr (.slice a4 el c4) (encO r)) := hOb
      clear hOb
      go_wp2_with fail
      refine HD.mono ?_
      rintro e w6 ⟨⟨us6, rfl, ho6⟩, hb6⟩
      obtain ⟨ux, vx, uy, vy, rfl⟩ := rec_oview ho6
      rw [← HNM.out.1, ← HNM.out.2.1, ← HNM.out.2.2] at ho6 ⊢
      obtain ⟨W7, hW7⟩ : ∃ W7, W7 = w6.alloc (.cells #[.int .i64 k, .slice ux n vx, .slice uy j vy] 27) := ⟨_, rfl⟩
      have hb7 : Below w6.heap.size w6 W7 := by rw [hW7]; exact (Below.refl _ w6).alloc (Nat.le_refl _) _
      have hB7 : Box W7 w6.heap.size 27 #[.int .i64 k, .slice ux n vx, .slice uy j vy] := by rw [hW7]; exact Box.new w6 27 _
      have hb67 := below_any hb6 hb7
      have hE7 : Eight W3.heap.size W7 (.slice a4 el c4) el := by
        refine ⟨encO r, HEL.out.symm, ?_⟩
        have h7 : Own1 W3.heap.size W7 (.slice a4 el c4) (encO r) := bytesS.obelow HOb.out hb67
        have := h7.row
        rwa [← HEL.out] at this
      have hlt7 : ∀ g, (Value.slice a4 el c4).ownBlock = some g → g < wr.heap.size := by
        have := HOb.out.row
        intro g hg
        exact (this.lt g hg).2
      have HS := spoil_eight _ _ _ W7 hE7
      have H7 : Hid (Below w.heap.size w W7 ∧ Box W7 w.heap.size 25 #[.int .i64 k, .slice a n c, .slice b2 j d] ∧ Box W7 w6.heap.size 27 #[.int .i64 k, .slice ux n vx, .slice uy j vy] ∧ recF.owns wr.heap.size W7 [.int .i64 k, .slice ux n vx, .slice uy j vy] r ∧ Eight W3.heap.size W7 (.slice a4 el c4) el ∧ w.heap.size < W3.heap.size ∧ wr.heap.size ≤ w6.heap.size) :=
        ⟨below_any HK.out.bel hb67, HK.out.box.below hb67 HK.out.box.lt, hB7, recF.osame ho6 (.of_below hb7), hE7, by have := HRW.out.2.1; have := HRW.out.2.2.1; have := HRW.out.2.2.2; omega, hb6.size⟩
      have HLT7 : Hid (∀ g, (Value.slice a4 el c4).ownBlock = some g → g < wr.heap.size) := hlt7
      clear ho6 hb6 hb7 hB7 hb67 hE7 hlt7 HD p0 p1 p2
      go_wp2_with fail
      rw [← hW7]
      clear hW7
      refine HS.mono ?_
      rintro e w8 ⟨rfl, hgr, _⟩
      have hs8 : Same wr.heap.size W7 w8 := fun q hq hl => hgr.block q hl fun e => by have := HLT7.out q e.symm; omega
      have hb8 : Below w.heap.size w w8 := H7.out.1.grown hgr H7.out.1.size (fun q hq => by have := (H7.out.2.2.2.2.1.lt q hq).1; have := H7.out.2.2.2.2.2.1; omega)
      have hP8 := H7.out.2.1.grown hgr (H7.out.2.2.2.2.1.box H7.out.2.1 (by decide))
      have hB8 := H7.out.2.2.1.grown hgr (H7.out.2.2.2.2.1.box H7.out.2.2.1 (by decide))
      have HSR := sameRec_true _ 0 _ _ r w8 (recF.olies (recF.osame H7.out.2.2.2.1 hs8)) (recF.keep HR.out.1 (.of_below hb8))
      have HB8 : Hid (Below w.heap.size w w8) := hb8
      obtain ⟨t0, t1, t2, _⟩ := hP8.three
      obtain ⟨v0, v1, v2, _⟩ := hB8.three
      clear hgr hs8 hb8 hP8 hB8 HS
      go_wp2_with (go_at_call 7; refine (num_any _ _).mono ?_; rintro e w5 ⟨rfl, rfl⟩)
      refine HSR.mono ?_
      rintro e w9 ⟨rfl, hb9⟩
      have HB9 : Hid (Below w.heap.size w w9) := below_any HB8.out hb9
      clear hb9 HSR t0 t1 t2 v0 v1 v2
      go_wp2
      go_ret
      exact ⟨rfl, HB9.out⟩

set_option maxRecDepth 100000 in
theorem contract (H : Type) (enc : TypeId × Value → H) (W : World) (base : Nat) (args : Array Value) (ds gs : List (DataW H)) (before : List MemPlace)
    (hval0 : ∀ (j : Nat) t v, Tryd.f3.params[j]? = some t → args[j]? = some v → Value.okWide Tryd.prog W .any base t v)
    (hW : DataW.Whole enc Tryd.prog Tryd.f3.params.toList Rows.wireOwnSpec.vars false W args.toList ds gs before) 
    (hsz0 : (DataW.weightsEach Tryd.prog (Tryd.f3.params.toList ++ Rows.wireOwnSpec.plain.varTypes Tryd.prog) (ds ++ gs)).all (· ≤ reachBytes) = true) (hg : Glob W) :
    Calls Tryd.prog 3 args W fun e W' => ∃ v, e = .returned v ∧ Rows.wireOwnSpec.post enc Tryd.prog Tryd.f3 false true false false W args v W' := by
  have hval := hval0
  have hW' := hW
  obtain ⟨p, q, hA0, hV, rfl, hfz, hnd⟩ := hW
  have hA : DataW.TrodAll enc Tryd.prog W 0 (fun _ => true) true Tryd.f3.params.toList args.toList ds p := hA0
  have hsz := hsz0
  clear hsz0
  rw [Tryd.params3] at hA hval hsz
  obtain ⟨v0, vs0, d0, ds0, p0, q0, hargs, rfl, rfl, h0, r0⟩ := trodAll_cons hA
  obtain ⟨rfl, rfl, rfl⟩ := trodAll_nil r0
  obtain rfl : args = #[v0] := by cases args; simp_all
  obtain ⟨rfl, rfl⟩ := trodVars_none hV
  obtain ⟨cs0, rfl, hc0⟩ := okWide_struct Tryd.underlying25 (hval 0 25 v0 rfl rfl)
  obtain ⟨us0, rfl⟩ := as_list cs0
  have k0 := h0
  have lt0 : ∀ x ∈ p0, x.block < W.heap.size := by obtain ⟨m, hm⟩ := k0; exact DataW.trod_lt m _ _ _ hm
  obtain ⟨m0, hm0⟩ := h0
  obtain ⟨s0, A0, F0'⟩ := recD.reads hm0
  have F0 := F0' fun n hn => by have := List.all_eq_true.1 hsz _ (DataW.weights_mem_each (j := 0) rfl rfl n hn); simpa using this
  clear hA0 hval0
  refine (walk us0 s0 W A0 (fits_of F0) hg).mono fun e W' ⟨he, bel⟩ => ?_
  subst he
  exact ⟨_, rfl, _, _, _, [], _, [], hW', trodAll_mk1 (shut_bool Tryd.underlying4 _), (trodAll_cons_mk (Below.trod laidOut (by kernel_rfl) (of_decide_eq_true (by kernel_rfl)) k0 bel lt0) trodAll_mk0), rfl, bel.frame _, fun h => by cases h⟩

theorem reads (os : Os) {H : Type} (enc : TypeId × Value → H) : ∃ places, DataW.whole enc Tryd.prog ((laidOf (World.holding Tryd.prog os ⟨#[], #[], []⟩)).forCall (fun _ _ => 0) ⟨#[], #[.agg #[.int .i64 0, .slice none 0 0, .slice none 0 0]], []⟩).memory Tryd.f3.params.toList Rows.wireOwnSpec.vars false (#[.agg #[.int .i64 0, .slice none 0 0, .slice none 0 0]] : Array Value).toList 8 = some ([.agg [.lit (.int .i64 0), .nil, .nil]], [], places) :=
  ⟨[], by kernel_rfl⟩

set_option maxRecDepth 100000 in
theorem lifted (os : Os) (started : os.Started) (H : Type) (enc : TypeId × Value → H) (F : Stop.Interp) :
    ReturnsInHanded {} Tryd.checked os 3 .any ((OpenSpec.ofChange Rows.wireOwnSpec).preRow enc Tryd.prog Tryd.f3 Rows.wireOwnRow.domain false Rows.wireOwnRow.laid) (((OpenSpec.ofChange Rows.wireOwnSpec).at F).post enc Tryd.prog Tryd.f3 false true false false) := by
  obtain ⟨places, hx⟩ := reads os enc
  refine returnsInHanded_of_row (C := Tryd.checked) (s := (OpenSpec.ofChange Rows.wireOwnSpec)) own started (by kernel_rfl) Tryd.func3
    (witness_row_at (enc := enc) (C := Tryd.checked) false (laidOf (World.holding Tryd.prog os ⟨#[], #[], []⟩)) #[.agg #[.int .i64 0, .slice none 0 0, .slice none 0 0]] rfl (by kernel_rfl) (by kernel_rfl) (by kernel_rfl)
      (OpenSpec.preRow_of_cond 8 hx (by kernel_rfl) (fun k hk => by cases hk) (by kernel_rfl) (laidWorld_met os _))) ?_
  intro W base args ds gs before hval hW _ _ hsz hL _ _
  exact contract H enc W base args ds gs before hval hW hsz (handle_of_laid hL)

theorem said : Rows.WireOwnSaid :=
  OpenClaim.holds_of_cond 3 Tryd.f3 rfl rfl rfl rfl rfl rfl rfl ⟨rfl, rfl, rfl, rfl, rfl⟩ rfl rfl rfl rfl rfl (by kernel_rfl) Tryd.func3 (by kernel_rfl)
    (of_decide_eq_true (by kernel_rfl)) (by unfold Func.isWrapper; first | (rw [if_pos (by decide +kernel)]; kernel_rfl) | (rw [if_neg (by decide +kernel)]; exact ⟨rfl, rfl⟩))
    (fun os started H enc _ F => by rw [OpenClaim.pre_eq_preRow]; exact lifted os started H enc F)

theorem plain (f : FuncId) (fn : Func) (hf : Tryd.pinned.checked.prog.funcNamed Tryd.f3.name = some f) (hfn : Tryd.pinned.checked.prog.funcs[f]? = some fn) :
    true = Tryd.pinned.checked.prog.looks [] ∧ ∀ (j : Nat) t, fn.params[j]? = some t → Tryd.pinned.checked.prog.wantsStandIn t = false := by
  obtain rfl : f = 3 := Option.some.inj ((show Tryd.prog.funcNamed Tryd.f3.name = some 3 by kernel_rfl).symm.trans hf) |>.symm
  obtain rfl : fn = Tryd.f3 := (Option.some.inj (Tryd.func3.symm.trans hfn)).symm
  refine ⟨by kernel_rfl, fun j t ht => ?_⟩
  rw [Tryd.params3] at ht
  have hm := Array.mem_of_getElem? ht
  simp only [List.mem_toArray, List.mem_cons, List.not_mem_nil, or_false] at hm
  rcases hm with rfl
  · exact (show Tryd.prog.wantsStandIn 25 = false by kernel_rfl)

theorem card : Rows.WireOwnCardSaid :=
  Claim7.holds_tied_plain_at .later [] _ _ _ _ said (fun _ h => by cases h) (by kernel_rfl) (fun _ h => by cases h) wireOwn_row_tie rfl ⟨rfl, rfl⟩ (by kernel_rfl) rfl plain (by kernel_rfl)

end Go.Proofs.YtfpllfjdgpcmdabDoor.wireOwn

namespace Go.Proofs.YtfpllfjdgpcmdabDoor
theorem wireOwn_holds : Rows.WireOwnCardSaid := wireOwn.card
#print axioms wireOwn_holds
end Go.Proofs.YtfpllfjdgpcmdabDoor
