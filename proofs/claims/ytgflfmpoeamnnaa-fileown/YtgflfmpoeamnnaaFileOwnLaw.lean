/-
  FileOwn: for every file, every number and every octets the law answers true: what Write makes shares nothing with what was handed to it. No condition.
-/
import Derived.Test.YtgflfmpoeamnnaaSpoil2
namespace Go.Proofs.Ytgflfmpoeamnnaa.fileOwn
open Go.ChangeShapes Go.WideShapes Go.ChangeAt Go.RowKit

set_option maxRecDepth 100000 in
set_option maxHeartbeats 4000000 in
theorem walk (us : List Value) (f : Fl) (off : Int) (v : Value) (d : List Int) (w : World) (h : flR.lies 0 w us f) (hf : Fits f) (hoff : I64 off) (hv : Arg 0 w v d) (hd : d.length ≤ 140737488351232) : Calls Try.prog 7 #[.agg us.toArray, .int .i64 off, v] w fun e w' => e = .returned (.bool true) ∧ Below w.heap.size w w' := by
  obtain ⟨fa, fc, rfl, _, _, hmf⟩ := fl_viewR h
  obtain ⟨fs, hfs⟩ : ∃ s, s = f.1 := ⟨_, rfl⟩
  obtain ⟨fl, hfl⟩ : ∃ n, n = f.2.length := ⟨_, rfl⟩
  rw [← hfs, ← hfl] at h ⊢
  rw [← hfl] at hmf
  unfold maxLen at hmf
  obtain ⟨da, dc, rfl, _⟩ := hv.shape
  obtain ⟨dl, hdl⟩ : ∃ n, n = d.length := ⟨_, rfl⟩
  rw [← hdl] at hv ⊢
  obtain ⟨U0, hU0⟩ : ∃ U, U = w.alloc (.cells #[.int .i64 fs, .slice fa fl fc] 24) := ⟨_, rfl⟩
  have hb0 : Below w.heap.size w U0 := by rw [hU0]; exact (Below.refl _ w).alloc (Nat.le_refl _) _
  have HL0 : Hid (Below w.heap.size w U0) := hb0
  have KF : Hid (∀ V, Below U0.heap.size U0 V → Box V w.heap.size 24 #[.int .i64 fs, .slice fa fl fc] ∧ flR.lies 0 V [.int .i64 fs, .slice fa fl fc] f ∧ Arg 0 V (.slice da dl dc) d) := fun V hV => by
    have hB : Box U0 w.heap.size 24 #[.int .i64 fs, .slice fa fl fc] := by rw [hU0]; exact Box.new _ _ _
    have hbb := below_any hb0 hV
    exact ⟨hB.below hV hB.lt, flR.below h hbb, hv.below hbb⟩
  have HI : Hid (I64 off ∧ Fits f ∧ d.length ≤ 140737488351232 ∧ fl = f.2.length ∧ w.heap.size < U0.heap.size) := ⟨hoff, hf, hd, hfl, by rw [hU0]; simp⟩
  have HA := alive_any U0
  clear h hf hoff hv hd hb0 hfs hfl hdl
  go_enter Try.func7, Try.ntmps7
  go_wp2_with fail
  rw [← hU0]
  clear hU0
  refine HA.mono ?_
  rintro e w1 ⟨rfl, hb1⟩
  have HL1 : Hid (Below U0.heap.size U0 w1) := hb1
  obtain ⟨g0, g1, _, _⟩ := (KF.out w1 hb1).1.two
  clear HA hb1
  go_wp2_with fail
  clear g0 g1
  refine (made_of 0 _ f w1 (KF.out w1 HL1.out).2.1 HI.out.2.1).mono ?_
  rintro e w2 ⟨⟨us2, rfl, hu2⟩, hb2⟩
  have HL2 : Hid (Below w1.heap.size w1 w2) := hb2
  obtain ⟨xa, xc, rfl, hxo, hxi⟩ := fl_ownN hu2
  obtain ⟨xs, hxs⟩ : ∃ s, s = f.1 := ⟨_, rfl⟩
  rw [← HI.out.2.2.2.1] at hxo hu2 ⊢
  rw [← hxs] at hu2 ⊢
  have KX : Hid (flN.owns w1.heap.size w2 [.int .i64 xs, .slice xa fl xc] f ∧ Raw w1.heap.size w2.heap.size w2 (.slice xa fl xc) fl) := ⟨hu2, by have := Raw.of hxo; rwa [← HI.out.2.2.2.1] at this⟩
  clear hu2 hxo hxi hxs hb2
  go_wp2_with fail
  refine (copy_any 0 _ d w2 (KF.out w2 (below_any HL1.out HL2.out)).2.2 (by have := HI.out.2.2.1; omega)).mono ?_
  rintro e w3 ⟨⟨v3, rfl, hv3⟩, hb3⟩
  have HL3 : Hid (Below w2.heap.size w2 w3) := hb3
  obtain ⟨oa, oc', rfl⟩ := hv3.shape
  obtain ⟨ol, hol⟩ : ∃ n, n = d.length := ⟨_, rfl⟩
  rw [← hol] at hv3 ⊢
  obtain ⟨U3, hU3⟩ : ∃ U, U = w3.alloc (.cells #[.int .i64 xs, .slice xa fl xc] 28) := ⟨_, rfl⟩
  have hbU : Below w3.heap.size w3 U3 := by rw [hU3]; exact (Below.refl _ _).alloc (Nat.le_refl _) _
  have hBx : Box U3 w3.heap.size 28 #[.int .i64 xs, .slice xa fl xc] := by rw [hU3]; exact Box.new _ _ _
  have HE : Hid (Eight w2.heap.size w3 (.slice oa ol oc') ol ∧ Own1 w2.heap.size w3 (.slice oa ol oc') d) := ⟨⟨d, hol.symm, by rw [hol]; have := hv3.row; rwa [hol] at this⟩, hv3⟩
  have HU3 : Hid (Below w3.heap.size w3 U3 ∧ Box U3 w3.heap.size 28 #[.int .i64 xs, .slice xa fl xc] ∧ w3.heap.size < U3.heap.size) := ⟨hbU, hBx, hBx.lt⟩
  have HC3 : Hid (Below U0.heap.size U0 U3) := below_any (below_any (below_any HL1.out HL2.out) hb3) hbU
  have HW := write_any _ _ _ f off _ d U3 (flN.below (flN.olies KX.out.1) (below_any hb3 hbU)) HI.out.1 (hv3.arg.below hbU)
  obtain ⟨g0, g1, _, _⟩ := hBx.two
  rw [hU3] at g0 g1
  clear hv3 hb3 hbU hBx hol
  go_wp2_with fail
  rw [← hU3]
  clear hU3 g0 g1
  refine HW.mono ?_
  rintro e w4 ⟨⟨us4, rfl, hu4⟩, hb4⟩
  obtain ⟨Z, hZ⟩ : ∃ Z, Z = wrF f off d := ⟨_, rfl⟩
  obtain ⟨E, hE⟩ : ∃ E, E = wrE f off d := ⟨_, rfl⟩
  have HZ : Hid (Z = wrF f off d ∧ E = wrE f off d) := ⟨hZ, hE⟩
  rw [← hZ] at hu4
  rw [← hE]
  obtain ⟨ys, aa, al, ac, rfl, hu4, hx⟩ := var_new hu4
  obtain ⟨U4, hU4⟩ : ∃ U, U = w4.alloc (.cells #[.int .i64 ys, .slice aa al ac] 28) := ⟨_, rfl⟩
  have hbU : Below w4.heap.size w4 U4 := by rw [hU4]; exact (Below.refl _ _).alloc (Nat.le_refl _) _
  have hBa : Box U4 w4.heap.size 28 #[.int .i64 ys, .slice aa al ac] := by rw [hU4]; exact Box.new _ _ _
  have HU4 : Hid (Below U3.heap.size U3 U4 ∧ Box U4 w4.heap.size 28 #[.int .i64 ys, .slice aa al ac] ∧ flN.lies U3.heap.size U4 [.int .i64 ys, .slice aa al ac] Z ∧ U3.heap.size ≤ w4.heap.size) := ⟨below_any hb4 hbU, hBa, flN.below hu4 hbU, hb4.size⟩
  have HR := rwrite_any 0 0 _ f off _ d U4 (KF.out U4 (below_any HC3.out HU4.out.1)).2.1 HI.out.1 (KF.out U4 (below_any HC3.out HU4.out.1)).2.2
  rw [← hZ, ← hE] at HR
  obtain ⟨g0, g1, _, _⟩ := (KF.out U4 (below_any HC3.out HU4.out.1)).1.two
  rw [hU4] at g0 g1
  clear hu4 hb4 hbU hBa HW hZ hE hx
  go_wp2_with fail
  rw [← hU4]
  clear hU4 g0 g1
  refine HR.mono ?_
  rintro e w5 ⟨⟨us5, rfl, hu5⟩, hb5⟩
  obtain ⟨bs, ba, bl, bc, rfl, hu5, hx⟩ := var_newR hu5
  obtain ⟨U5, hU5⟩ : ∃ U, U = w5.alloc (.cells #[.int .i64 bs, .slice ba bl bc] 24) := ⟨_, rfl⟩
  have hbU : Below w5.heap.size w5 U5 := by rw [hU5]; exact (Below.refl _ _).alloc (Nat.le_refl _) _
  have hBb : Box U5 w5.heap.size 24 #[.int .i64 bs, .slice ba bl bc] := by rw [hU5]; exact Box.new _ _ _
  have hb45 := below_any hb5 hbU
  have HU5 : Hid (Box U5 w5.heap.size 24 #[.int .i64 bs, .slice ba bl bc] ∧ flR.lies U4.heap.size U5 [.int .i64 bs, .slice ba bl bc] Z ∧ Box U5 w4.heap.size 28 #[.int .i64 ys, .slice aa al ac] ∧ flN.lies U3.heap.size U5 [.int .i64 ys, .slice aa al ac] Z ∧ U4.heap.size ≤ w5.heap.size ∧ U3.heap.size ≤ U4.heap.size) :=
    ⟨hBb, flR.below hu5 hbU, HU4.out.2.1.below hb45 HU4.out.2.1.lt, flN.below HU4.out.2.2.1 hb45, hb5.size, HU4.out.1.size⟩
  have hb35 : Below U3.heap.size U3 U5 := below_any HU4.out.1 hb45
  have HE5 : Hid (Eight w2.heap.size U5 (.slice oa ol oc') ol) := by
    obtain ⟨l', hl', ho'⟩ := HE.out.1
    exact ⟨l', hl', own_below ho' (below_any HU3.out.1 hb35)⟩
  have HSP0 : Hid (SP w U5 w1.heap.size U3.heap.size w3.heap.size #[.int .i64 xs, .slice xa fl xc] (.slice xa fl xc) fl U5) := by
    refine ⟨fun _ _ _ => rfl, Nat.le_refl _, below_any HL0.out (below_any HC3.out hb35), HU3.out.2.1.below hb35 HU3.out.2.1.lt, ?_⟩
    have hr := KX.out.2
    have hs : Same w1.heap.size w2 U5 := .of_below (below_any HL3.out (below_any HU3.out.1 hb35))
    obtain ⟨vss, h1, h2, h3⟩ := hr.same hs
    refine ⟨vss, h1, h2, fun u hu => ?_⟩
    obtain ⟨q1, q2, q3, q4, q5, q6, q7⟩ := h3 u hu
    exact ⟨q1, q2, q3, q4, q5, q6, fun g hg => by have := q7 g hg; have := HL3.out.size; have := HU3.out.2.2; omega⟩
  have HOL : Hid (∀ g, (Value.slice oa ol oc').ownBlock = some g → g < U3.heap.size) := fun g hg => by
    have := (HE.out.1.lt g hg).2
    have := HU3.out.2.2
    omega
  have HWW : Hid (w.heap.size ≤ w1.heap.size ∧ w1.heap.size ≤ w2.heap.size) := ⟨by have := HL0.out.size; have := HL1.out.size; omega, HL2.out.size⟩
  clear hu5 hb5 hbU hBb HR hx hb45 hb35
  go_wp2_with fail
  rw [← hU5]
  clear hU5
  refine (spoil_eight _ _ _ U5 HE5.out).mono ?_
  rintro e w6 ⟨rfl, hg6, hE6⟩
  have HSP1 : Hid (SP w U5 w1.heap.size U3.heap.size w3.heap.size #[.int .i64 xs, .slice xa fl xc] (.slice xa fl xc) fl w6) := by
    obtain ⟨l', hl', ho'⟩ := HE5.out
    exact HSP0.out.step HWW.out.1 ⟨l', hl', own_weaken ho' HWW.out.2⟩ HOL.out hg6 hE6
  have hl1 := run_len Try.underlying26 xa fl xc
  clear hg6 hE6 HSP0
  go_wp2
  go_loopw [13] (fun i wr => ∃ k : Nat, k ≤ fl ∧ i = .int .i64 k ∧ SP w U5 w1.heap.size U3.heap.size w3.heap.size #[.int .i64 xs, .slice xa fl xc] (.slice xa fl xc) fl wr) (fun i _ => fl - (intOf i).toNat)
  case atStart => exact ⟨0, Nat.zero_le _, rfl, HSP1.out⟩
  case round =>
    obtain ⟨k, hk, rfl, hSP⟩ := hrel
    obtain ⟨q0, q1, _, _⟩ := hSP.2.2.2.1.two
    have HS : Hid (SP w U5 w1.heap.size U3.heap.size w3.heap.size #[.int .i64 xs, .slice xa fl xc] (.slice xa fl xc) fl wr) := hSP
    by_cases hlt : k < fl
    · obtain ⟨bx, ox, ra, rm, rc, hix, hc1, hE1, hN1⟩ := hSP.2.2.2.2.at k hlt
      have HR1 : Hid (Eight w1.heap.size wr (.slice ra rm rc) rm ∧ ∀ g, (Value.slice ra rm rc).ownBlock = some g → g < U3.heap.size) := ⟨hE1, hN1⟩
      have hki : (k : Int) < (fl : Int) := by omega
      clear hSP hE1 hN1
      go_wp2_with fail
      refine (spoil_eight _ _ _ wr HR1.out.1).mono ?_
      rintro e w7 ⟨rfl, hg7, hE7⟩
      have HS7 : Hid (SP w U5 w1.heap.size U3.heap.size w3.heap.size #[.int .i64 xs, .slice xa fl xc] (.slice xa fl xc) fl w7) := HS.out.step HWW.out.1 HR1.out.1 HR1.out.2 hg7 hE7
      clear hg7 hE7 hc1 q0 q1
      go_wp2
      go_roundw
      case rel => exact ⟨k + 1, by omega, by go_num, HS7.out⟩
      case measure => simp [intOf]; omega
    · obtain rfl : k = fl := by omega
      obtain ⟨r0, r1, _, _⟩ := (HS.out.box HU5.out.1 (by have := HU5.out.2.2.2.2; omega)).two
      obtain ⟨t0, t1, _, _⟩ := (HS.out.box HU5.out.2.2.1 HU4.out.2.2.2).two
      have HK := alike_any U3.heap.size U4.heap.size _ _ Z Z wr (flN.keep HU5.out.2.2.2.1 HS.out.1) (flR.keep HU5.out.2.1 (fun i h1 h2 => HS.out.1 i (by have := HU5.out.2.2.2.2.2; omega) h2))
      rw [if_pos rfl] at HK
      clear hSP
      go_wp2_with (go_at_call 19; refine (num_any _ _).mono ?_; rintro e w8 ⟨rfl, rfl⟩)
      refine HK.mono ?_
      rintro e w8 ⟨rfl, hb8⟩
      go_wp2
      go_ret
      exact ⟨rfl, below_any HS.out.2.2.1 hb8⟩

set_option maxRecDepth 100000 in
theorem lifted (os : Os) (started : os.Started) (H : Type) (enc : TypeId × Value → H) :
    ReturnsInHanded {} Try.checked os 7 .any (Rows.fileOwnSpec.pre6 enc Try.prog Try.f7 Rows.fileOwnRow.domain false) (Rows.fileOwnSpec.post enc Try.prog Try.f7 false true false false) := by
  refine returnsInHanded_of_change_sized (C := Try.checked) own started (by kernel_rfl) Try.func7
    (ChangeSpec.witness6 (enc := enc) (C := Try.checked) false ⟨#[], #[.agg #[.int .i64 0, .slice none 0 0], .int .i64 0, .slice none 0 0], []⟩ 8 (by kernel_rfl) (by kernel_rfl) (by kernel_rfl) (by kernel_rfl)) ?_
  intro W base args ds gs before hval0 hW hcnd hsz0 _
  have hval : ∀ (j : Nat) t v, Try.f7.params[j]? = some t → args[j]? = some v → Value.okWide Try.prog W .any base t v := hval0
  have hW' := hW
  obtain ⟨p, q, hA0, hV, rfl, hfz, hnd⟩ := hW
  have hA : DataW.TrodAll enc Try.prog W 0 (fun _ => true) true Try.f7.params.toList args.toList ds p := hA0
  have hsz : (DataW.weightsEach Try.prog (Try.f7.params.toList ++ Rows.fileOwnSpec.plain.varTypes Try.prog) (ds ++ gs)).all (· ≤ reachBytes) = true := hsz0
  clear hsz0
  rw [Try.params7] at hA hval hsz
  obtain ⟨v0, vs0, d0, ds0, p0, q0, hargs, rfl, rfl, h0, r0⟩ := trodAll_cons hA
  obtain ⟨v1, vs1, d1, ds1, p1, q1, rfl, rfl, rfl, h1, r1⟩ := trodAll_cons r0
  obtain ⟨v2, vs2, d2, ds2, p2, q2, rfl, rfl, rfl, h2, r2⟩ := trodAll_cons r1
  obtain ⟨rfl, rfl, rfl⟩ := trodAll_nil r2
  obtain rfl : args = #[v0, v1, v2] := by cases args; simp_all
  obtain ⟨rfl, rfl⟩ := trodVars_none hV
  obtain ⟨cs0, rfl, hc0⟩ := okWide_struct Try.underlying24 (hval 0 24 v0 rfl rfl)
  obtain ⟨us0, rfl⟩ := as_list cs0
  have k0 := h0
  have lt0 : ∀ x ∈ p0, x.block < W.heap.size := by obtain ⟨m, hm⟩ := k0; exact DataW.trod_lt m _ _ _ hm
  obtain ⟨m0, hm0⟩ := h0
  obtain ⟨s0, A0, F0'⟩ := flR.reads hm0
  have F0 := F0' fun n hn => by have := List.all_eq_true.1 hsz _ (DataW.weights_mem_each (j := 0) rfl rfl n hn); simpa using this
  obtain ⟨a1, rfl, rfl, rfl, w1⟩ := open_int Try.underlying3 (hval 1 3 v1 rfl rfl) h1
  have b1 := bounds_i64 w1
  obtain ⟨x2, len2, cap2, rfl⟩ := okWide_slice Try.underlying25 (hval 2 25 v2 rfl rfl)
  have k2 := h2
  have lt2 : ∀ x ∈ p2, x.block < W.heap.size := by obtain ⟨m, hm⟩ := k2; exact DataW.trod_lt m _ _ _ hm
  obtain ⟨m2, hm2⟩ := h2
  obtain ⟨s2, A2, F2'⟩ := bytesS.reads hm2
  have F2 := F2' fun n hn => by have := List.all_eq_true.1 hsz _ (DataW.weights_mem_each (j := 2) rfl rfl n hn); simpa using this
  clear hA0 hval0
  refine (walk us0 s0 a1 _ s2 W A0 (fits_of F0) b1 A2 (bytes_fit F2)).mono fun e W' ⟨he, bel⟩ => ?_
  subst he
  exact ⟨_, rfl, _, _, _, [], _, [], hW', trodAll_mk1 (shut_bool Try.underlying4 _), (trodAll_cons_mk (Below.trod laidOut (by kernel_rfl) (of_decide_eq_true (by kernel_rfl)) k0 bel lt0) (trodAll_cons_mk (shut_int Try.underlying3 w1) (trodAll_cons_mk (Below.trod laidOut (by kernel_rfl) (of_decide_eq_true (by kernel_rfl)) k2 bel lt2) trodAll_mk0))), rfl, bel.frame _, fun h => by cases h⟩

theorem over : Rows.fileOwnRow.holds Try.pinned (OpenSpec.ofChange Rows.fileOwnSpec) :=
  OpenClaim.holds_of_wide 7 Try.f7 rfl rfl rfl rfl rfl rfl rfl ⟨rfl, rfl, rfl, rfl, rfl⟩ rfl rfl rfl rfl rfl (by kernel_rfl) Try.func7 (by kernel_rfl)
    (of_decide_eq_true (by kernel_rfl)) (by unfold Func.isWrapper; first | (rw [if_pos (by decide +kernel)]; kernel_rfl) | (rw [if_neg (by decide +kernel)]; exact ⟨rfl, rfl⟩))
    (fun os started H enc _ => lifted os started H enc)

end Go.Proofs.Ytgflfmpoeamnnaa.fileOwn

namespace Go.Proofs.Ytgflfmpoeamnnaa
theorem fileOwn_holds : Rows.FileOwnSaid := fileOwn.over
#print axioms fileOwn_holds
end Go.Proofs.Ytgflfmpoeamnnaa
