/-
  WireRot, proved: for every record of the document (as great as the form reads it), every place and every bits: the call returns true, and changes nothing that was in memory. Its one listed variable is what the card ties to the program's text; the walk does not read it.
-/
import Derived.Test.YtfpllfjdgpcmdaaDoorOf
import Derived.Test.YtfpllfjdgpcmdaaDoorAlive
import Derived.Test.YtfpllfjdgpcmdaaDoorRotMath
import Derived.Test.YtfpllfjdgpcmdaaDoorDecBad
import Derived.Test.YtfpllfjdgpcmdaaDoorFrame
import Derived.Test.YtfpllfjdgpcmdaaDoorCards
import Derived.Test.YtfpllfjdgpcmdaaDoorTie
import Derived.Deep.DeepHandedRow
namespace Go.Proofs.YtfpllfjdgpcmdaaDoor.wireRot
open Go.ChangeShapes Go.WideShapes Go.ChangeAt Go.RowKit
set_option linter.unusedVariables false

theorem spot (x : Int) (n : Nat) (hn : 0 < n) (hn2 : n ≤ 1000000) : ∃ (t : Int) (j : Nat), Int.tmod x n = t ∧ -(n : Int) < t ∧ t < (n : Int) ∧ Int.tmod (t + n) n = j ∧ j < n := by
  have h1 := Int.tmod_lt_of_pos x (show (0 : Int) < n by omega)
  have h2 : -(n : Int) < Int.tmod x n := by
    have := Int.lt_tmod_of_pos x (show (0 : Int) < n by omega)
    exact this
  refine ⟨_, (Int.tmod (Int.tmod x n + n) n).toNat, rfl, h2, h1, ?_, ?_⟩
  · have := Int.tmod_nonneg (a := Int.tmod x n + n) n (by omega)
    omega
  · have := Int.tmod_lt_of_pos (Int.tmod x n + n) (show (0 : Int) < n by omega)
    have h0 := Int.tmod_nonneg (a := Int.tmod x n + n) n (by omega)
    omega

theorem laidR_length (r : Rc) (hc : chkR r = 0) (hi : ∀ x ∈ r.2.1, I64 x) : (laidR r).length ≤ 300000 := by
  obtain ⟨_, _, h3, h4, h5⟩ := chk_ok hc
  have h1 := laidN_length r.2.1 hi
  have h2 := laidT_length r.2.2 h5
  unfold laidR
  rw [List.length_cons, List.length_cons, List.length_append, List.length_cons]
  omega

theorem xor_ne : ∀ x b : Fin 256, b.val ≠ 0 → bits .xor .u8 (x.val : Int) (b.val : Int) ≠ (x.val : Int) ∧ 0 ≤ bits .xor .u8 (x.val : Int) (b.val : Int) ∧ bits .xor .u8 (x.val : Int) (b.val : Int) ≤ 255 := by
  intro x b hb
  rw [u8_xor_nat _ _ x.isLt b.isLt]
  refine ⟨fun h => hb ?_, by omega, ?_⟩
  · have h1 : x.val ^^^ b.val = x.val := by omega
    have h2 : x.val ^^^ (x.val ^^^ b.val) = x.val ^^^ x.val := by rw [h1]
    rw [← Nat.xor_assoc, Nat.xor_self, Nat.zero_xor] at h2
    exact h2
  · have := Nat.xor_lt_two_pow (n := 8) x.isLt b.isLt
    omega

set_option maxRecDepth 100000 in
set_option maxHeartbeats 8000000 in
theorem walk (us : List Value) (r : Rc) (p b : Int) (w : World) (h : recD.lies 0 w us r) (hf : FitsR r) (hp : I64 p) (hb : 0 ≤ b ∧ b ≤ 255) :
    Calls Tryd.prog 8 #[.agg us.toArray, .int .i64 p, .int .u8 b] w fun e w' => e = .returned (.bool true) ∧ Below w.heap.size w w' := by
  obtain ⟨a, c, b2, d, rfl, hI, hT, hk, _⟩ := rec_view h
  have HR : Hid (recF.lies 0 w [.int .i64 r.1, .slice a r.2.1.length c, .slice b2 r.2.2.length d] r ∧ FitsR r) := ⟨h, hf⟩
  obtain ⟨W, hW⟩ : ∃ W, W = w.alloc (.cells #[.int .i64 r.1, .slice a r.2.1.length c, .slice b2 r.2.2.length d] 25) := ⟨_, rfl⟩
  have hbW : Below w.heap.size w W := by rw [hW]; exact (Below.refl _ w).alloc (Nat.le_refl _) _
  have hP : Box W w.heap.size 25 #[.int .i64 r.1, .slice a r.2.1.length c, .slice b2 r.2.2.length d] := by rw [hW]; exact Box.new w 25 _
  have HW : Hid (Below w.heap.size w W ∧ Box W w.heap.size 25 #[.int .i64 r.1, .slice a r.2.1.length c, .slice b2 r.2.2.length d]) := ⟨hbW, hP⟩
  have HRO : Hid (Oc (laidR r) ∨ chkR r ≠ 0) := by
    by_cases hc : chkR r = 0
    · left
      obtain ⟨h1, h2, h3, h4, _⟩ := chk_ok hc
      exact oc_cons.2 ⟨⟨h1, h2⟩, oc_cons.2 ⟨by omega, oc_append.2 ⟨laidN_oc _, oc_cons.2 ⟨by omega, laidT_oc _ (texts_oct hT)⟩⟩⟩⟩
    · exact .inr hc
  obtain ⟨n, hn⟩ : ∃ n, n = r.2.1.length := ⟨_, rfl⟩
  obtain ⟨m, hm⟩ : ∃ n, n = r.2.2.length := ⟨_, rfl⟩
  obtain ⟨k, hkk⟩ : ∃ k, k = r.1 := ⟨_, rfl⟩
  rw [← hn, ← hm, ← hkk] at HR HW hW ⊢
  clear h hf hI hT hk hbW hP hn hm hkk
  have HA := alive_any W
  go_enter Tryd.func8, Tryd.ntmps8
  go_wp2_with fail
  rw [← hW]
  clear hW
  refine HA.mono ?_
  rintro e w1 ⟨rfl, hb1⟩
  have hP1 := HW.out.2.below hb1 HW.out.2.lt
  have HB1 : Hid (Below w.heap.size w w1) := below_any HW.out.1 hb1
  obtain ⟨g0, g1, g2, _⟩ := hP1.three
  clear hP1 hb1 HA
  have HF := of_any 0 [.int .i64 k, .slice a n c, .slice b2 m d] r w1 (recF.keep HR.out.1 (.of_below HB1.out)) HR.out.2
  go_wp2_with fail
  refine HF.mono ?_
  rintro e w2 ⟨⟨us2, rfl, ho2⟩, hb2⟩
  have HE := enc_any _ us2 r w2 (recF.olies ho2)
  have HB2 : Hid (Below w.heap.size w w2) := below_any HB1.out hb2
  clear ho2 hb2 HF g0 g1 g2
  go_wp2_with fail
  refine HE.mono ?_
  rintro e w3 ⟨⟨a3, c3, rfl, ho3⟩, hb3⟩
  have HB3 : Hid (Below w.heap.size w w3) := below_any HB2.out hb3
  by_cases hc : chkR r = 0
  case neg =>
    have he : encO r = [] := by unfold encO; rw [if_neg hc]
    rw [he]
    have hll := run_len Tryd.underlying26 a3 0 c3
    obtain ⟨ce, hce⟩ : ∃ x, x = chkR r := ⟨_, rfl⟩
    rw [← hce] at hc ⊢
    clear ho3 hb3 HE he hce
    go_wp2_with (go_at_call 16; refine (num_any _ _).mono ?_; rintro e w4 ⟨rfl, rfl⟩)
    go_ret
    exact ⟨rfl, HB3.out⟩
  rw [hc]
  by_cases hb0 : b = 0
  · subst hb0
    clear ho3 hb3 HE
    obtain ⟨q, hq⟩ : ∃ q, q = (encO r).length := ⟨_, rfl⟩
    rw [← hq]
    have hll := run_len Tryd.underlying26 a3 q c3
    clear hq
    go_wp2_with (go_at_call 16; refine (num_any _ _).mono ?_; rintro e w4 ⟨rfl, rfl⟩)
    go_ret
    exact ⟨rfl, HB3.out⟩
  have he : encO r = C.sealed (laidR r) := by unfold encO; rw [if_pos hc]
  have hOL : Oc (laidR r) := HRO.out.resolve_right (fun h => h hc)
  rw [he] at ho3 ⊢
  obtain ⟨L, hL⟩ : ∃ L, L = C.sealed (laidR r) := ⟨_, rfl⟩
  have hLl : 0 < L.length ∧ L.length ≤ 1000000 := by
    rw [hL, C.sealed_length]
    have := laidR_length r hc (ints_in (n := 0) (w := w) (us := [.slice a r.2.1.length c]) (by
      obtain ⟨_, _, _, _, hu, h1, _⟩ := rec_view HR.out.1
      have e := (List.cons.inj (List.cons.inj hu).2).1
      obtain ⟨rfl, rfl, rfl⟩ := Value.slice.inj e
      exact h1))
    omega
  have HLR : Hid (∀ j, j < L.length → ∀ y : Int, 0 ≤ y ∧ y ≤ 255 → y ≠ L.getD j 0 → C.oerr (L.set j y) = 21) := fun j hj y hy hne => by
    rw [hL] at hj hne ⊢
    exact rot_bad _ hOL j hj y hy hne
  rw [← hL] at ho3 ⊢
  clear hL he hOL
  obtain ⟨N, hN⟩ : ∃ n, n = L.length := ⟨_, rfl⟩
  have HN : Hid (N = L.length) := hN
  have hrow := ho3.row
  have HLO : Hid (Oc L) := ho3.oct
  rw [← hN] at hLl hrow ⊢
  obtain ⟨hN0, hN1⟩ := hLl
  obtain ⟨g, cap, hv, _, _⟩ := hrow.form hN0
  obtain ⟨rfl, _, rfl⟩ := Value.slice.inj hv
  obtain ⟨t, j, ht, ht1, ht2, hj, hj2⟩ := spot p N hN0 hN1
  have hjl : j < L.length := by rw [← hN]; exact hj2
  have hcell : w3.cell? ⟨g, j, none⟩ = some (.int .u8 (L.getD j 0)) := by
    rw [hrow.cellAt j (by omega), List.getElem?_map, List.getElem?_eq_getElem hjl]
    simp [List.getElem?_eq_getElem hjl]
  have hfz := hrow.frozenAt j
  have hx : 0 ≤ L.getD j 0 ∧ L.getD j 0 ≤ 255 := HLO.out _ (by simp [List.getD, List.getElem?_eq_getElem hjl])
  obtain ⟨x, hxd⟩ : ∃ x, x = L.getD j 0 := ⟨_, rfl⟩
  rw [← hxd] at hcell hx
  have hxy := xor_ne ⟨x.toNat, by omega⟩ ⟨b.toNat, by omega⟩ (by simp; omega)
  simp only [Int.toNat_of_nonneg hx.1, Int.toNat_of_nonneg hb.1] at hxy
  obtain ⟨y, hy⟩ : ∃ y, y = bits .xor .u8 x b := ⟨_, rfl⟩
  rw [← hy] at hxy
  have hst := hrow.stored j (.int .u8 y)
  have HO4 : Hid (Own1 w2.heap.size (w3.setCell ⟨g, j, none⟩ (.int .u8 y)) (.slice (some ⟨g, 0, none⟩) N c3) (L.set j y) ∧ Below w.heap.size w (w3.setCell ⟨g, j, none⟩ (.int .u8 y))) := by
    refine ⟨.mk ?_ (oc_set HLO.out j hxy.2), ?_⟩
    · rw [List.length_set, ← HN.out, List.map_set]
      exact hst.1
    · exact HB3.out.setCell (p := ⟨g, j, none⟩) (by
        have := (hrow.lt g rfl).1
        have := HB2.out.size
        simp
        omega) _
  have HER : Hid (C.oerr (L.set j y) = 21) := HLR.out j hjl y hxy.2 (by rw [← hxd]; exact hxy.1)
  have HD := dec_bad w2.heap.size _ (L.set j y) _ HO4.out.1.arg (by rw [List.length_set, ← HN.out]; omega) (by rw [HER.out]; decide)
  rw [HER.out] at HD
  have hll := run_len Tryd.underlying26 (some ⟨g, 0, none⟩) N c3
  have hji : (j : Int) < (N : Int) := by omega
  clear ho3 hb3 HE hN hrow hv hst hjl hxd hx hxy HLR
  go_wp2_with (go_at_call 16; refine (num_any _ _).mono ?_; rintro e w4 ⟨rfl, rfl⟩)
  rw [← hy]
  refine HD.mono ?_
  rintro e w5 ⟨rfl, hb5⟩
  have HB5 : Hid (Below w.heap.size w w5) := below_any HO4.out.2 hb5
  have hE := (Box.new w5 27 #[.int .i64 0, .slice none 0 0, .slice none 0 0]).three
  obtain ⟨s0, s1, s2, s3, s4, s5⟩ := hE
  clear hb5 HD ht hj hcell hfz
  go_wp2_with (go_at_call 16; refine (num_any _ _).mono ?_; rintro e w6 ⟨rfl, rfl⟩)
  go_ret
  refine ⟨rfl, ?_⟩
  first
    | exact HB5.out.alloc (by have := HB5.out.size; omega) _
    | exact below_set3 (HB5.out.alloc (by have := HB5.out.size; omega) _) (by have := HB5.out.size; omega) _ _ _

set_option maxRecDepth 100000 in
theorem contract (H : Type) (enc : TypeId × Value → H) (W : World) (base : Nat) (args : Array Value) (ds gs : List (DataW H)) (before : List MemPlace)
    (hval0 : ∀ (j : Nat) t v, Tryd.f8.params[j]? = some t → args[j]? = some v → Value.okWide Tryd.prog W .any base t v)
    (hW : DataW.Whole enc Tryd.prog Tryd.f8.params.toList Rows.wireRotSpec.vars false W args.toList ds gs before) 
    (hsz0 : (DataW.weightsEach Tryd.prog (Tryd.f8.params.toList ++ Rows.wireRotSpec.plain.varTypes Tryd.prog) (ds ++ gs)).all (· ≤ reachBytes) = true) (hg : Glob W) :
    Calls Tryd.prog 8 args W fun e W' => ∃ v, e = .returned v ∧ Rows.wireRotSpec.post enc Tryd.prog Tryd.f8 false true false false W args v W' := by
  have hval := hval0
  have hW' := hW
  obtain ⟨p, q, hA0, hV, rfl, hfz, hnd⟩ := hW
  have hA : DataW.TrodAll enc Tryd.prog W 0 (fun _ => true) true Tryd.f8.params.toList args.toList ds p := hA0
  have hsz := hsz0
  clear hsz0
  rw [Tryd.params8] at hA hval hsz
  obtain ⟨v0, vs0, d0, ds0, p0, q0, hargs, rfl, rfl, h0, r0⟩ := trodAll_cons hA
  obtain ⟨v1, vs1, d1, ds1, p1, q1, rfl, rfl, rfl, h1, r1⟩ := trodAll_cons r0
  obtain ⟨v2, vs2, d2, ds2, p2, q2, rfl, rfl, rfl, h2, r2⟩ := trodAll_cons r1
  obtain ⟨rfl, rfl, rfl⟩ := trodAll_nil r2
  obtain rfl : args = #[v0, v1, v2] := by cases args; simp_all
  obtain ⟨rfl, rfl⟩ := trodVars_none hV
  obtain ⟨cs0, rfl, hc0⟩ := okWide_struct Tryd.underlying25 (hval 0 25 v0 rfl rfl)
  obtain ⟨us0, rfl⟩ := as_list cs0
  have k0 := h0
  have lt0 : ∀ x ∈ p0, x.block < W.heap.size := by obtain ⟨m, hm⟩ := k0; exact DataW.trod_lt m _ _ _ hm
  obtain ⟨m0, hm0⟩ := h0
  obtain ⟨s0, A0, F0'⟩ := recD.reads hm0
  have F0 := F0' fun n hn => by have := List.all_eq_true.1 hsz _ (DataW.weights_mem_each (j := 0) rfl rfl n hn); simpa using this
  obtain ⟨a1, rfl, rfl, rfl, w1⟩ := open_int Tryd.underlying3 (hval 1 3 v1 rfl rfl) h1
  have b1 := bounds_i64 w1
  obtain ⟨a2, rfl, rfl, rfl, w2⟩ := open_int Tryd.underlying5 (hval 2 5 v2 rfl rfl) h2
  have b2 := wf_u8 w2
  clear hA0 hval0
  refine (walk us0 s0 a1 a2 W A0 (fits_of F0) b1 b2).mono fun e W' ⟨he, bel⟩ => ?_
  subst he
  exact ⟨_, rfl, _, _, _, [], _, [], hW', trodAll_mk1 (shut_bool Tryd.underlying4 _), (trodAll_cons_mk (Below.trod laidOut (by kernel_rfl) (of_decide_eq_true (by kernel_rfl)) k0 bel lt0) (trodAll_cons_mk (shut_int Tryd.underlying3 w1) (trodAll_cons_mk (shut_int Tryd.underlying5 w2) trodAll_mk0))), rfl, bel.frame _, fun h => by cases h⟩

theorem reads (os : Os) {H : Type} (enc : TypeId × Value → H) : ∃ places, DataW.whole enc Tryd.prog ((laidOf (World.holding Tryd.prog os ⟨#[], #[], []⟩)).forCall (fun _ _ => 0) ⟨#[], #[.agg #[.int .i64 0, .slice none 0 0, .slice none 0 0], .int .i64 0, .int .u8 0], []⟩).memory Tryd.f8.params.toList Rows.wireRotSpec.vars false (#[.agg #[.int .i64 0, .slice none 0 0, .slice none 0 0], .int .i64 0, .int .u8 0] : Array Value).toList 8 = some ([.agg [.lit (.int .i64 0), .nil, .nil], .lit (.int .i64 0), .lit (.int .u8 0)], [], places) :=
  ⟨[], by kernel_rfl⟩

set_option maxRecDepth 100000 in
theorem lifted (os : Os) (started : os.Started) (H : Type) (enc : TypeId × Value → H) (F : Stop.Interp) :
    ReturnsInHanded {} Tryd.checked os 8 .any ((OpenSpec.ofChange Rows.wireRotSpec).preRow enc Tryd.prog Tryd.f8 Rows.wireRotRow.domain false Rows.wireRotRow.laid) (((OpenSpec.ofChange Rows.wireRotSpec).at F).post enc Tryd.prog Tryd.f8 false true false false) := by
  obtain ⟨places, hx⟩ := reads os enc
  refine returnsInHanded_of_row (C := Tryd.checked) (s := (OpenSpec.ofChange Rows.wireRotSpec)) own started (by kernel_rfl) Tryd.func8
    (witness_row_at (enc := enc) (C := Tryd.checked) false (laidOf (World.holding Tryd.prog os ⟨#[], #[], []⟩)) #[.agg #[.int .i64 0, .slice none 0 0, .slice none 0 0], .int .i64 0, .int .u8 0] rfl (by kernel_rfl) (by kernel_rfl) (by kernel_rfl)
      (OpenSpec.preRow_of_cond 8 hx (by kernel_rfl) (fun k hk => by cases hk) (by kernel_rfl) (laidWorld_met os _))) ?_
  intro W base args ds gs before hval hW _ _ hsz hL _ _
  exact contract H enc W base args ds gs before hval hW hsz (handle_of_laid hL)

theorem said : Rows.WireRotSaid :=
  OpenClaim.holds_of_cond 8 Tryd.f8 rfl rfl rfl rfl rfl rfl rfl ⟨rfl, rfl, rfl, rfl, rfl⟩ rfl rfl rfl rfl rfl (by kernel_rfl) Tryd.func8 (by kernel_rfl)
    (of_decide_eq_true (by kernel_rfl)) (by unfold Func.isWrapper; first | (rw [if_pos (by decide +kernel)]; kernel_rfl) | (rw [if_neg (by decide +kernel)]; exact ⟨rfl, rfl⟩))
    (fun os started H enc _ F => by rw [OpenClaim.pre_eq_preRow]; exact lifted os started H enc F)

theorem plain (f : FuncId) (fn : Func) (hf : Tryd.pinned.checked.prog.funcNamed Tryd.f8.name = some f) (hfn : Tryd.pinned.checked.prog.funcs[f]? = some fn) :
    true = Tryd.pinned.checked.prog.looks [] ∧ ∀ (j : Nat) t, fn.params[j]? = some t → Tryd.pinned.checked.prog.wantsStandIn t = false := by
  obtain rfl : f = 8 := Option.some.inj ((show Tryd.prog.funcNamed Tryd.f8.name = some 8 by kernel_rfl).symm.trans hf) |>.symm
  obtain rfl : fn = Tryd.f8 := (Option.some.inj (Tryd.func8.symm.trans hfn)).symm
  refine ⟨by kernel_rfl, fun j t ht => ?_⟩
  rw [Tryd.params8] at ht
  have hm := Array.mem_of_getElem? ht
  simp only [List.mem_toArray, List.mem_cons, List.not_mem_nil, or_false] at hm
  rcases hm with rfl | rfl | rfl
  · exact (show Tryd.prog.wantsStandIn 25 = false by kernel_rfl)
  · exact (show Tryd.prog.wantsStandIn 3 = false by kernel_rfl)
  · exact (show Tryd.prog.wantsStandIn 5 = false by kernel_rfl)

theorem card : Rows.WireRotCardSaid :=
  Claim7.holds_tied_plain_at .later [] _ _ _ _ said (fun _ h => by cases h) (by kernel_rfl) (fun _ h => by cases h) wireRot_row_tie rfl ⟨rfl, rfl⟩ (by kernel_rfl) rfl plain (by kernel_rfl)

end Go.Proofs.YtfpllfjdgpcmdaaDoor.wireRot

namespace Go.Proofs.YtfpllfjdgpcmdaaDoor
theorem wireRot_holds : Rows.WireRotCardSaid := wireRot.card
#print axioms wireRot_holds
end Go.Proofs.YtfpllfjdgpcmdaaDoor
