/-
  WireBack, proved: for every record of the document and every octets (as great as the form reads them): the call returns true, and changes nothing that was in memory; the one listed variable (the handle of the type of errors) starts as the program's text lays it, which the card ties.
-/
import Derived.Test.YtfpllfjdgpcmdaaDoorOf
import Derived.Test.YtfpllfjdgpcmdaaDoorAlive
import Derived.Test.YtfpllfjdgpcmdaaDoorBackMath
import Derived.Test.YtfpllfjdgpcmdaaDoorFits
import Derived.Test.YtfpllfjdgpcmdaaDoorCards
import Derived.Test.YtfpllfjdgpcmdaaDoorTie
import Derived.Deep.DeepHandedRow
namespace Go.Proofs.YtfpllfjdgpcmdaaDoor.wireBack
open Go.ChangeShapes Go.WideShapes Go.ChangeAt Go.RowKit
set_option linter.unusedVariables false

set_option maxRecDepth 100000 in
set_option maxHeartbeats 8000000 in
theorem walk (us : List Value) (r : Rc) (v : Value) (l : List Int) (w : World) (h : recD.lies 0 w us r) (hf : FitsR r) (hA : Arg 0 w v l) (hs : l.length ≤ 140737488351232) (hg : Glob w) :
    Calls Tryd.prog 5 #[.agg us.toArray, v] w fun e w' => e = .returned (.bool true) ∧ Below w.heap.size w w' := by
  obtain ⟨a, c, b2, d, rfl, _⟩ := rec_view h
  have HR : Hid (recF.lies 0 w [.int .i64 r.1, .slice a r.2.1.length c, .slice b2 r.2.2.length d] r ∧ FitsR r) := ⟨h, hf⟩
  have HL : Hid (Arg 0 w v l ∧ l.length ≤ 140737488351232 ∧ Glob w ∧ Oc l) := ⟨hA, hs, hg, hA.oct⟩
  have HRI : Hid ((∀ x ∈ r.2.1, I64 x) ∧ ∀ t ∈ r.2.2, Oc t) := rec_ints (n := 0) (w := w) h
  obtain ⟨va, vc, rfl, _⟩ := hA.shape
  obtain ⟨W, hW⟩ : ∃ W, W = w.alloc (.cells #[.int .i64 r.1, .slice a r.2.1.length c, .slice b2 r.2.2.length d] 25) := ⟨_, rfl⟩
  have hbW : Below w.heap.size w W := by rw [hW]; exact (Below.refl _ w).alloc (Nat.le_refl _) _
  have hP : Box W w.heap.size 25 #[.int .i64 r.1, .slice a r.2.1.length c, .slice b2 r.2.2.length d] := by rw [hW]; exact Box.new w 25 _
  have HW : Hid (Below w.heap.size w W ∧ Box W w.heap.size 25 #[.int .i64 r.1, .slice a r.2.1.length c, .slice b2 r.2.2.length d]) := ⟨hbW, hP⟩
  obtain ⟨n, hn⟩ : ∃ n, n = r.2.1.length := ⟨_, rfl⟩
  obtain ⟨m, hm⟩ : ∃ n, n = r.2.2.length := ⟨_, rfl⟩
  obtain ⟨k, hkk⟩ : ∃ k, k = r.1 := ⟨_, rfl⟩
  obtain ⟨ll, hll⟩ : ∃ n, n = l.length := ⟨_, rfl⟩
  rw [← hn, ← hm, ← hkk] at HR HW hW ⊢
  have HLL : Hid (ll = l.length) := hll
  rw [← hll] at HL ⊢
  have HGL : Hid (∀ w', Below w.heap.size w w' → Glob w') := fun w' hb => HL.out.2.2.1.below hb HL.out.2.2.1.lt
  clear h hf hbW hP hn hm hkk hA hs hg hll
  have HA := alive_any W
  go_enter Tryd.func5, Tryd.ntmps5
  go_wp2_with fail
  rw [← hW]
  clear hW
  refine HA.mono ?_
  rintro e w1 ⟨rfl, hb1⟩
  have hP1 := HW.out.2.below hb1 HW.out.2.lt
  have HB1 : Hid (Below w.heap.size w w1 ∧ Box w1 w.heap.size 25 #[.int .i64 k, .slice a n c, .slice b2 m d]) := ⟨below_any HW.out.1 hb1, hP1⟩
  obtain ⟨g0, g1, g2, _⟩ := hP1.three
  clear hP1 hb1 HA HW
  have HF := of_any 0 [.int .i64 k, .slice a n c, .slice b2 m d] r w1 (recF.keep HR.out.1 (.of_below HB1.out.1)) HR.out.2
  go_wp2_with fail
  refine HF.mono ?_
  rintro e w2 ⟨⟨us2, rfl, ho2⟩, hb2⟩
  have HE := enc_any _ us2 r w2 (recF.olies ho2)
  have HB2 : Hid (Below w.heap.size w w2 ∧ Box w2 w.heap.size 25 #[.int .i64 k, .slice a n c, .slice b2 m d]) := ⟨below_any HB1.out.1 hb2, HB1.out.2.below hb2 HB1.out.2.lt⟩
  clear ho2 hb2 HF g0 g1 g2
  go_wp2_with fail
  refine HE.mono ?_
  rintro e w3 ⟨⟨a3, c3, rfl, ho3⟩, hb3⟩
  have HB3 : Hid (Below w.heap.size w w3 ∧ Box w3 w.heap.size 25 #[.int .i64 k, .slice a n c, .slice b2 m d]) := ⟨below_any HB2.out.1 hb3, HB2.out.2.below hb3 HB2.out.2.lt⟩
  have HX : Hid (Own1 w2.heap.size w3 (.slice a3 (encO r).length c3) (encO r)) := ho3
  obtain ⟨el, hel⟩ : ∃ n, n = (encO r).length := ⟨_, rfl⟩
  rw [← hel] at HX ⊢
  have HEL : Hid (el = (encO r).length) := hel
  clear ho3 hb3 HE hel HB1 HB2
  by_cases hc : chkR r = 0
  case neg =>
    obtain ⟨WN, hWN⟩ : ∃ WN, WN = w3 := ⟨_, rfl⟩
    have HBN : Hid (Below w.heap.size w WN) := by show Below _ _ _; rw [hWN]; exact HB3.out.1
    rw [← hWN]
    obtain ⟨ce, hce⟩ : ∃ y, y = chkR r := ⟨_, rfl⟩
    rw [← hce] at hc ⊢
    clear hWN HB3 HX hce
    have HD := dec_any 0 (.slice va ll vc) l WN (HL.out.1.below HBN.out) (by have := HL.out.2.1; have := HLL.out; omega) (HGL.out _ HBN.out)
    go_wp2_with (go_at_call 16; refine (num_any _ _).mono ?_; rintro e w4 ⟨rfl, rfl⟩)
    refine HD.mono ?_
    rintro e w7 ⟨⟨us7, rfl, ho7⟩, hb7⟩
    obtain ⟨ax, cx, ay, cy, rfl⟩ := rec_oview ho7
    obtain ⟨W8, hW8⟩ : ∃ W8, W8 = w7.alloc (.cells #[.int .i64 (decV l).1, .slice ax (decV l).2.1.length cx, .slice ay (decV l).2.2.length cy] 27) := ⟨_, rfl⟩
    have hb8 : Below w7.heap.size w7 W8 := by rw [hW8]; exact (Below.refl _ w7).alloc (Nat.le_refl _) _
    have hB8 : Box W8 w7.heap.size 27 #[.int .i64 (decV l).1, .slice ax (decV l).2.1.length cx, .slice ay (decV l).2.2.length cy] := by rw [hW8]; exact Box.new w7 27 _
    have HB8 : Hid (Below w.heap.size w W8) := below_any (below_any HBN.out hb7) hb8
    have hY := recF.olies (recF.osame ho7 (.of_below hb8))
    have HE2 := enc_any _ _ (decV l) W8 hY
    obtain ⟨k8, hk8⟩ : ∃ y, y = (decV l).1 := ⟨_, rfl⟩
    obtain ⟨n8, hn8⟩ : ∃ y, y = (decV l).2.1.length := ⟨_, rfl⟩
    obtain ⟨m8, hm8⟩ : ∃ y, y = (decV l).2.2.length := ⟨_, rfl⟩
    have hl8 := run_len Tryd.underlying22 ax n8 cx
    have hl9 := run_len Tryd.underlying23 ay m8 cy
    by_cases hz : decE l = 0
    · obtain ⟨hc8, he8⟩ := enc_dec HL.out.2.2.2 hz
      rw [hc8, he8] at HE2
      rw [hz]
      rw [← hk8, ← hn8, ← hm8] at HE2 hW8 hB8 ⊢
      obtain ⟨s0, s1, s2, _⟩ := hB8.three
      rw [← HLL.out] at HE2
      rw [hW8] at s0 s1 s2
      clear ho7 hb7 hb8 hB8 hY HD hk8 hn8 hm8 hz hc8 he8
      go_wp2_with (go_at_call 16; refine (num_any _ _).mono ?_; rintro e w9 ⟨rfl, rfl⟩)
      rw [← hW8]
      clear hW8 s0 s1 s2
      refine HE2.mono ?_
      rintro e w9 ⟨⟨a9, c9, rfl, ho9⟩, hb9⟩
      have hb09 := below_any HB8.out hb9
      have HS := same_any _ 0 _ (.slice va ll vc) l l w9 ho9.arg (HL.out.1.below hb09)
      rw [show decide (l = l) = true by simp] at HS
      have HB9 : Hid (Below w.heap.size w w9) := hb09
      clear ho9 hb9 hb09 HE2
      go_wp2_with (go_at_call 16; refine (num_any _ _).mono ?_; rintro e w10 ⟨rfl, rfl⟩)
      refine HS.mono ?_
      rintro e w11 ⟨rfl, q, rfl⟩
      go_wp2
      go_ret
      exact ⟨rfl, below_drewN HB9.out q⟩
    · have hz0 := dec_zero hz
      have hn0 : n8 = 0 := by rw [hn8, hz0]; rfl
      have hm0 : m8 = 0 := by rw [hm8, hz0]; rfl
      rw [← hk8, ← hn8, ← hm8] at hW8 hB8 ⊢
      obtain ⟨s0, s1, s2, _⟩ := hB8.three
      subst hn0
      subst hm0
      rw [hW8] at s0 s1 s2 HB8
      obtain ⟨de, hde⟩ : ∃ y, y = decE l := ⟨_, rfl⟩
      rw [← hde] at hz ⊢
      clear ho7 hb7 hb8 hB8 hY HD hk8 hn8 hm8 hz0 HE2 hW8 hde
      go_wp2_with (go_at_call 16; refine (num_any _ _).mono ?_; rintro e w9 ⟨rfl, rfl⟩)
      go_ret
      exact ⟨rfl, HB8.out⟩
  rw [hc]
  have hde := dec_enc hc HRI.out.1 HRI.out.2
  have HD0 := dec_any _ _ (encO r) w3 HX.out.arg (by have := enc_len (r := r) HRI.out.1; omega) (HGL.out _ HB3.out.1)
  rw [hde.1, hde.2] at HD0
  go_wp2_with (go_at_call 16; refine (num_any _ _).mono ?_; rintro e w4 ⟨rfl, rfl⟩)
  refine HD0.mono ?_
  rintro e w5 ⟨⟨us5, rfl, ho5⟩, hb5⟩
  obtain ⟨ax, cx, ay, cy, rfl⟩ := rec_oview ho5
  obtain ⟨W6, hW6⟩ : ∃ W6, W6 = w5.alloc (.cells #[.int .i64 r.1, .slice ax r.2.1.length cx, .slice ay r.2.2.length cy] 27) := ⟨_, rfl⟩
  have hb6 : Below w5.heap.size w5 W6 := by rw [hW6]; exact (Below.refl _ w5).alloc (Nat.le_refl _) _
  have hB6 : Box W6 w5.heap.size 27 #[.int .i64 r.1, .slice ax r.2.1.length cx, .slice ay r.2.2.length cy] := by rw [hW6]; exact Box.new w5 27 _
  have hb36 := below_any hb5 hb6
  have HB6 : Hid (Below w.heap.size w W6) := below_any HB3.out.1 hb36
  have HS6 := sameRec_true _ 0 _ _ r W6 (recF.olies (recF.osame ho5 (.of_below hb6))) (recF.keep HR.out.1 (.of_below HB6.out))
  obtain ⟨t0, t1, t2, _⟩ := (HB3.out.2.below hb36 HB3.out.2.lt).three
  obtain ⟨n6, hn6⟩ : ∃ n, n = r.2.1.length := ⟨_, rfl⟩
  obtain ⟨m6, hm6⟩ : ∃ n, n = r.2.2.length := ⟨_, rfl⟩
  obtain ⟨k6, hk6⟩ : ∃ k, k = r.1 := ⟨_, rfl⟩
  rw [← hn6, ← hm6, ← hk6] at HS6 hW6 hB6 ⊢
  obtain ⟨s0, s1, s2, _⟩ := hB6.three
  rw [hW6] at s0 s1 s2 t0 t1 t2
  clear ho5 hb5 hb6 hB6 hb36 HD0 hn6 hm6 hk6 hde
  go_wp2_with (go_at_call 16; refine (num_any _ _).mono ?_; rintro e w4 ⟨rfl, rfl⟩)
  rw [← hW6]
  clear hW6 s0 s1 s2 t0 t1 t2
  refine HS6.mono ?_
  rintro e WN ⟨rfl, hbN⟩
  have HBN : Hid (Below w.heap.size w WN) := below_any HB6.out hbN
  clear hbN HS6 HX HB3 HB6
  have HD := dec_any 0 (.slice va ll vc) l WN (HL.out.1.below HBN.out) (by have := HL.out.2.1; have := HLL.out; omega) (HGL.out _ HBN.out)
  go_wp2_with (go_at_call 16; refine (num_any _ _).mono ?_; rintro e w4 ⟨rfl, rfl⟩)
  refine HD.mono ?_
  rintro e w7 ⟨⟨us7, rfl, ho7⟩, hb7⟩
  obtain ⟨ax, cx, ay, cy, rfl⟩ := rec_oview ho7
  obtain ⟨W8, hW8⟩ : ∃ W8, W8 = w7.alloc (.cells #[.int .i64 (decV l).1, .slice ax (decV l).2.1.length cx, .slice ay (decV l).2.2.length cy] 27) := ⟨_, rfl⟩
  have hb8 : Below w7.heap.size w7 W8 := by rw [hW8]; exact (Below.refl _ w7).alloc (Nat.le_refl _) _
  have hB8 : Box W8 w7.heap.size 27 #[.int .i64 (decV l).1, .slice ax (decV l).2.1.length cx, .slice ay (decV l).2.2.length cy] := by rw [hW8]; exact Box.new w7 27 _
  have HB8 : Hid (Below w.heap.size w W8) := below_any (below_any HBN.out hb7) hb8
  have hY := recF.olies (recF.osame ho7 (.of_below hb8))
  have HE2 := enc_any _ _ (decV l) W8 hY
  obtain ⟨k8, hk8⟩ : ∃ y, y = (decV l).1 := ⟨_, rfl⟩
  obtain ⟨n8, hn8⟩ : ∃ y, y = (decV l).2.1.length := ⟨_, rfl⟩
  obtain ⟨m8, hm8⟩ : ∃ y, y = (decV l).2.2.length := ⟨_, rfl⟩
  have hl8 := run_len Tryd.underlying22 ax n8 cx
  have hl9 := run_len Tryd.underlying23 ay m8 cy
  by_cases hz : decE l = 0
  · obtain ⟨hc8, he8⟩ := enc_dec HL.out.2.2.2 hz
    rw [hc8, he8] at HE2
    rw [hz]
    rw [← hk8, ← hn8, ← hm8] at HE2 hW8 hB8 ⊢
    obtain ⟨s0, s1, s2, _⟩ := hB8.three
    rw [← HLL.out] at HE2
    rw [hW8] at s0 s1 s2
    clear ho7 hb7 hb8 hB8 hY HD hk8 hn8 hm8 hz hc8 he8
    go_wp2_with (go_at_call 16; refine (num_any _ _).mono ?_; rintro e w9 ⟨rfl, rfl⟩)
    rw [← hW8]
    clear hW8 s0 s1 s2
    refine HE2.mono ?_
    rintro e w9 ⟨⟨a9, c9, rfl, ho9⟩, hb9⟩
    have hb09 := below_any HB8.out hb9
    have HS := same_any _ 0 _ (.slice va ll vc) l l w9 ho9.arg (HL.out.1.below hb09)
    rw [show decide (l = l) = true by simp] at HS
    have HB9 : Hid (Below w.heap.size w w9) := hb09
    clear ho9 hb9 hb09 HE2
    go_wp2_with (go_at_call 16; refine (num_any _ _).mono ?_; rintro e w10 ⟨rfl, rfl⟩)
    refine HS.mono ?_
    rintro e w11 ⟨rfl, q, rfl⟩
    go_wp2
    go_ret
    exact ⟨rfl, below_drewN HB9.out q⟩
  · have hz0 := dec_zero hz
    have hn0 : n8 = 0 := by rw [hn8, hz0]; rfl
    have hm0 : m8 = 0 := by rw [hm8, hz0]; rfl
    rw [← hk8, ← hn8, ← hm8] at hW8 hB8 ⊢
    obtain ⟨s0, s1, s2, _⟩ := hB8.three
    subst hn0
    subst hm0
    rw [hW8] at s0 s1 s2 HB8
    obtain ⟨de, hde⟩ : ∃ y, y = decE l := ⟨_, rfl⟩
    rw [← hde] at hz ⊢
    clear ho7 hb7 hb8 hB8 hY HD hk8 hn8 hm8 hz0 HE2 hW8 hde
    go_wp2_with (go_at_call 16; refine (num_any _ _).mono ?_; rintro e w9 ⟨rfl, rfl⟩)
    go_ret
    exact ⟨rfl, HB8.out⟩

set_option maxRecDepth 100000 in
theorem contract (H : Type) (enc : TypeId × Value → H) (W : World) (base : Nat) (args : Array Value) (ds gs : List (DataW H)) (before : List MemPlace)
    (hval0 : ∀ (j : Nat) t v, Tryd.f5.params[j]? = some t → args[j]? = some v → Value.okWide Tryd.prog W .any base t v)
    (hW : DataW.Whole enc Tryd.prog Tryd.f5.params.toList Rows.wireBackSpec.vars false W args.toList ds gs before) 
    (hsz0 : (DataW.weightsEach Tryd.prog (Tryd.f5.params.toList ++ Rows.wireBackSpec.plain.varTypes Tryd.prog) (ds ++ gs)).all (· ≤ reachBytes) = true) (hg : Glob W) :
    Calls Tryd.prog 5 args W fun e W' => ∃ v, e = .returned v ∧ Rows.wireBackSpec.post enc Tryd.prog Tryd.f5 false true false false W args v W' := by
  have hval := hval0
  have hW' := hW
  obtain ⟨p, q, hA0, hV, rfl, hfz, hnd⟩ := hW
  have hA : DataW.TrodAll enc Tryd.prog W 0 (fun _ => true) true Tryd.f5.params.toList args.toList ds p := hA0
  have hsz := hsz0
  clear hsz0
  rw [Tryd.params5] at hA hval hsz
  obtain ⟨v0, vs0, d0, ds0, p0, q0, hargs, rfl, rfl, h0, r0⟩ := trodAll_cons hA
  obtain ⟨v1, vs1, d1, ds1, p1, q1, rfl, rfl, rfl, h1, r1⟩ := trodAll_cons r0
  obtain ⟨rfl, rfl, rfl⟩ := trodAll_nil r1
  obtain rfl : args = #[v0, v1] := by cases args; simp_all
  obtain ⟨rfl, rfl⟩ := trodVars_none hV
  obtain ⟨cs0, rfl, hc0⟩ := okWide_struct Tryd.underlying25 (hval 0 25 v0 rfl rfl)
  obtain ⟨us0, rfl⟩ := as_list cs0
  have k0 := h0
  have lt0 : ∀ x ∈ p0, x.block < W.heap.size := by obtain ⟨m, hm⟩ := k0; exact DataW.trod_lt m _ _ _ hm
  obtain ⟨m0, hm0⟩ := h0
  obtain ⟨s0, A0, F0'⟩ := recD.reads hm0
  have F0 := F0' fun n hn => by have := List.all_eq_true.1 hsz _ (DataW.weights_mem_each (j := 0) rfl rfl n hn); simpa using this
  obtain ⟨x1, len1, cap1, rfl⟩ := okWide_slice Tryd.underlying26 (hval 1 26 v1 rfl rfl)
  have k1 := h1
  have lt1 : ∀ x ∈ p1, x.block < W.heap.size := by obtain ⟨m, hm⟩ := k1; exact DataW.trod_lt m _ _ _ hm
  obtain ⟨m1, hm1⟩ := h1
  obtain ⟨s1, A1, F1'⟩ := bytesS.reads hm1
  have F1 := F1' fun n hn => by have := List.all_eq_true.1 hsz _ (DataW.weights_mem_each (j := 1) rfl rfl n hn); simpa using this
  clear hA0 hval0
  refine (walk us0 s0 (.slice x1 len1 cap1) s1 W A0 (fits_of F0) A1 (fits_b F1) hg).mono fun e W' ⟨he, bel⟩ => ?_
  subst he
  exact ⟨_, rfl, _, _, _, [], _, [], hW', trodAll_mk1 (shut_bool Tryd.underlying4 _), (trodAll_cons_mk (Below.trod laidOut (by kernel_rfl) (of_decide_eq_true (by kernel_rfl)) k0 bel lt0) (trodAll_cons_mk (Below.trod laidOut (by kernel_rfl) (of_decide_eq_true (by kernel_rfl)) k1 bel lt1) trodAll_mk0)), rfl, bel.frame _, fun h => by cases h⟩

theorem reads (os : Os) {H : Type} (enc : TypeId × Value → H) : ∃ places, DataW.whole enc Tryd.prog ((laidOf (World.holding Tryd.prog os ⟨#[], #[], []⟩)).forCall (fun _ _ => 0) ⟨#[], #[.agg #[.int .i64 0, .slice none 0 0, .slice none 0 0], .slice none 0 0], []⟩).memory Tryd.f5.params.toList Rows.wireBackSpec.vars false (#[.agg #[.int .i64 0, .slice none 0 0, .slice none 0 0], .slice none 0 0] : Array Value).toList 8 = some ([.agg [.lit (.int .i64 0), .nil, .nil], .nil], [], places) :=
  ⟨[], by kernel_rfl⟩

set_option maxRecDepth 100000 in
theorem lifted (os : Os) (started : os.Started) (H : Type) (enc : TypeId × Value → H) (F : Stop.Interp) :
    ReturnsInHanded {} Tryd.checked os 5 .any ((OpenSpec.ofChange Rows.wireBackSpec).preRow enc Tryd.prog Tryd.f5 Rows.wireBackRow.domain false Rows.wireBackRow.laid) (((OpenSpec.ofChange Rows.wireBackSpec).at F).post enc Tryd.prog Tryd.f5 false true false false) := by
  obtain ⟨places, hx⟩ := reads os enc
  refine returnsInHanded_of_row (C := Tryd.checked) (s := (OpenSpec.ofChange Rows.wireBackSpec)) own started (by kernel_rfl) Tryd.func5
    (witness_row_at (enc := enc) (C := Tryd.checked) false (laidOf (World.holding Tryd.prog os ⟨#[], #[], []⟩)) #[.agg #[.int .i64 0, .slice none 0 0, .slice none 0 0], .slice none 0 0] rfl (by kernel_rfl) (by kernel_rfl) (by kernel_rfl)
      (OpenSpec.preRow_of_cond 8 hx (by kernel_rfl) (fun k hk => by cases hk) (by kernel_rfl) (laidWorld_met os _))) ?_
  intro W base args ds gs before hval hW _ _ hsz hL _ _
  exact contract H enc W base args ds gs before hval hW hsz (handle_of_laid hL)

theorem said : Rows.WireBackSaid :=
  OpenClaim.holds_of_cond 5 Tryd.f5 rfl rfl rfl rfl rfl rfl rfl ⟨rfl, rfl, rfl, rfl, rfl⟩ rfl rfl rfl rfl rfl (by kernel_rfl) Tryd.func5 (by kernel_rfl)
    (of_decide_eq_true (by kernel_rfl)) (by unfold Func.isWrapper; first | (rw [if_pos (by decide +kernel)]; kernel_rfl) | (rw [if_neg (by decide +kernel)]; exact ⟨rfl, rfl⟩))
    (fun os started H enc _ F => by rw [OpenClaim.pre_eq_preRow]; exact lifted os started H enc F)

theorem plain (f : FuncId) (fn : Func) (hf : Tryd.pinned.checked.prog.funcNamed Tryd.f5.name = some f) (hfn : Tryd.pinned.checked.prog.funcs[f]? = some fn) :
    true = Tryd.pinned.checked.prog.looks [] ∧ ∀ (j : Nat) t, fn.params[j]? = some t → Tryd.pinned.checked.prog.wantsStandIn t = false := by
  obtain rfl : f = 5 := Option.some.inj ((show Tryd.prog.funcNamed Tryd.f5.name = some 5 by kernel_rfl).symm.trans hf) |>.symm
  obtain rfl : fn = Tryd.f5 := (Option.some.inj (Tryd.func5.symm.trans hfn)).symm
  refine ⟨by kernel_rfl, fun j t ht => ?_⟩
  rw [Tryd.params5] at ht
  have hm := Array.mem_of_getElem? ht
  simp only [List.mem_toArray, List.mem_cons, List.not_mem_nil, or_false] at hm
  rcases hm with rfl | rfl
  · exact (show Tryd.prog.wantsStandIn 25 = false by kernel_rfl)
  · exact (show Tryd.prog.wantsStandIn 26 = false by kernel_rfl)

theorem card : Rows.WireBackCardSaid :=
  Claim7.holds_tied_plain_at .later [] _ _ _ _ said (fun _ h => by cases h) (by kernel_rfl) (fun _ h => by cases h) wireBack_row_tie rfl ⟨rfl, rfl⟩ (by kernel_rfl) rfl plain (by kernel_rfl)

end Go.Proofs.YtfpllfjdgpcmdaaDoor.wireBack

namespace Go.Proofs.YtfpllfjdgpcmdaaDoor
theorem wireBack_holds : Rows.WireBackCardSaid := wireBack.card
#print axioms wireBack_holds
end Go.Proofs.YtfpllfjdgpcmdaaDoor
