/-
  BlockmapTells: for every index, path, size, offset and number (the path as great as the form reads it) the law answers true: paths, indexes, how many blocks there are and which octets lie in, are the document's; what is handed in stays. No condition of its own.
-/
import Derived.Test.YtlfdalckhpgpiaaAlive
import Derived.Test.YtlfdalckhpgpiaaRefIndex
import Derived.Test.YtlfdalckhpgpiaaFrame
namespace Go.Proofs.Ytlfdalckhpgpiaa.blockmapTells
open Go.ChangeShapes Go.WideShapes Go.ChangeAt Go.RowKit

theorem bytes3 : Try.prog.bytesOf 3 = 8 := by kernel_rfl
theorem fits_of {l : List Int} (h : intsS.fits l) : l.length * 8 ≤ 140737488351232 := by
  have h : l.length * Try.prog.bytesOf 3 ≤ 140737488351232 := h
  rwa [bytes3] at h

set_option maxRecDepth 100000 in
set_option maxHeartbeats 2000000 in
theorem walk (x : Int) (v : Value) (l : List Int) (s o n : Int) (w : World) (hx : I64 x) (hl : intsS.lies 0 w [v] l) (hf : l.length * 8 ≤ 140737488351232) (hs : I64 s) (ho : I64 o) (hn : I64 n) : Calls Try.prog 3 #[.int .i64 x, v, .int .i64 s, .int .i64 o, .int .i64 n] w fun e w' => e = .returned (.bool true) ∧ Below w.heap.size w w' := by
  have H0 := copy_any 0 v l w hl hf
  have H1 := fun V => path_any x V hx
  have H2 := fun V => rpath_any x V hx
  have H5 := fun V => blocks_any s V hs
  have H6 := fun V => rblocks_any s V hs
  have H7 := fun V => span_any o n V ho hn
  have H8 := fun V => rspan_any o n V ho hn
  have HL : Hid (∀ V, Below w.heap.size w V → intsS.lies 0 V [v] l) := fun V hV => intsS.below hl hV
  obtain ⟨av, cv, rfl, _⟩ := ints_shape hl
  obtain ⟨len, hlen⟩ : ∃ n, n = l.length := ⟨_, rfl⟩
  rw [← hlen] at H0 HL ⊢
  obtain ⟨pe, hpe⟩ : ∃ y, y = pathE x := ⟨_, rfl⟩
  obtain ⟨pn, hpn⟩ : ∃ y, y = (pathL x).length := ⟨_, rfl⟩
  rw [← hpe, ← hpn] at H1 H2
  obtain ⟨bv, hbv⟩ : ∃ y, y = blkV s := ⟨_, rfl⟩
  obtain ⟨bm, hbm⟩ : ∃ y, y = blkM s := ⟨_, rfl⟩
  obtain ⟨be, hbe⟩ : ∃ y, y = blkE s := ⟨_, rfl⟩
  rw [← hbv, ← hbm, ← hbe] at H5 H6
  obtain ⟨sf, hsf⟩ : ∃ y, y = spnF o n := ⟨_, rfl⟩
  obtain ⟨sk, hsk⟩ : ∃ y, y = spnK o n := ⟨_, rfl⟩
  obtain ⟨se, hse⟩ : ∃ y, y = spnE o n := ⟨_, rfl⟩
  rw [← hsf, ← hsk, ← hse] at H7 H8
  obtain ⟨iv, hiv⟩ : ∃ y, y = idxV l := ⟨_, rfl⟩
  obtain ⟨ie, hie⟩ : ∃ y, y = idxE l := ⟨_, rfl⟩
  have HI : Hid (iv = idxV l ∧ ie = idxE l) := ⟨hiv, hie⟩
  clear hl hf hs ho hn hx hlen hpe hpn hbv hbm hbe hsf hsk hse hiv hie
  go_enter Try.func3, Try.ntmps3
  go_wp2_with fail
  refine H0.mono ?_
  rintro e w1 ⟨⟨v1, rfl, ho1⟩, hb1⟩
  obtain ⟨a1, c1, rfl, _⟩ := ints_shape (intsS.olies ho1)
  have HO1 : Hid (∀ V, Below w1.heap.size w1 V → intsS.lies 0 V [.slice a1 l.length c1] l ∧ Below w.heap.size w V) := fun V hV => ⟨intsS.weaken (intsS.olies (intsS.obelow ho1 hV)) (Nat.zero_le _), below_any hb1 hV⟩
  obtain ⟨len1, hlen1⟩ : ∃ n, n = l.length := ⟨_, rfl⟩
  rw [← hlen1] at HO1 ⊢
  clear H0 ho1 hb1 hlen1
  go_wp2_with fail
  refine (H1 _).mono ?_
  rintro e w2 ⟨⟨a2, c2, rfl, ho2⟩, hb2⟩
  have HO2 : Hid (∀ V, Below w2.heap.size w2 V → intsS.lies 0 V [.slice a2 pn c2] (pathL x) ∧ Below w1.heap.size w1 V) := fun V hV => ⟨intsS.weaken (intsS.olies (intsS.obelow ho2 hV)) (Nat.zero_le _), below_any hb2 hV⟩
  clear H1 ho2 hb2
  go_wp2_with fail
  refine (H2 _).mono ?_
  rintro e w3 ⟨⟨a3, c3, rfl, ho3⟩, hb3⟩
  have HO3 : Hid (∀ V, Below w3.heap.size w3 V → intsS.lies 0 V [.slice a3 pn c3] (pathL x) ∧ Below w2.heap.size w2 V) := fun V hV => ⟨intsS.weaken (intsS.olies (intsS.obelow ho3 hV)) (Nat.zero_le _), below_any hb3 hV⟩
  clear H2 ho3 hb3
  have HU : Hid (∀ V, Below w3.heap.size w3 V → intsS.lies 0 V [.slice a1 len1 c1] l ∧ intsS.lies 0 V [.slice av len cv] l ∧ intsS.lies 0 V [.slice a2 pn c2] (pathL x) ∧ intsS.lies 0 V [.slice a3 pn c3] (pathL x) ∧ Below w.heap.size w V) := fun V hV => by
    have q3 := HO3.out V hV
    have q2 := HO2.out V q3.2
    have q1 := HO1.out V q2.2
    exact ⟨q1.1, HL.out V q1.2, q2.1, q3.1, q1.2⟩
  have H3 := index_any 0 _ _ w3 (HU.out w3 (Below.refl _ _)).1
  rw [← HI.out.1, ← HI.out.2] at H3
  clear HL HO1 HO2 HO3
  go_wp2_with fail
  refine H3.mono ?_
  rintro e w4 ⟨rfl, hb4⟩
  have H4 := rindex_any 0 _ _ w4 (HU.out w4 hb4).2.1
  rw [← HI.out.1, ← HI.out.2] at H4
  have HB4 : Hid (Below w3.heap.size w3 w4) := hb4
  clear H3 hb4
  go_wp2_with fail
  refine H4.mono ?_
  rintro e w5 ⟨rfl, hb5⟩
  have HB5 : Hid (Below w3.heap.size w3 w5) := below_any HB4.out hb5
  clear H4 hb5 HB4
  go_wp2_with fail
  refine (H5 _).mono ?_
  rintro e w6 ⟨rfl, rfl⟩
  clear H5
  go_wp2_with fail
  refine (H6 _).mono ?_
  rintro e w6 ⟨rfl, rfl⟩
  clear H6
  go_wp2_with fail
  refine (H7 _).mono ?_
  rintro e w6 ⟨rfl, rfl⟩
  clear H7
  go_wp2_with fail
  refine (H8 _).mono ?_
  rintro e w6 ⟨rfl, rfl⟩
  clear H8
  have HU5 := HU.out w5 HB5.out
  have H9 := same_any 0 0 _ _ _ _ w5 HU5.2.2.1 HU5.2.2.2.1
  rw [show decide (pathL x = pathL x) = true by simp] at H9
  clear HU5
  go_wp2_with fail
  refine H9.mono ?_
  rintro e w6 ⟨rfl, q, rfl⟩
  have HB6 : Hid (Below w3.heap.size w3 (w5.drewN q)) := below_drewN HB5.out q
  obtain ⟨w6, hw6⟩ : ∃ W, W = w5.drewN q := ⟨_, rfl⟩
  rw [← hw6] at HB6 ⊢
  have H10 := same_any 0 0 _ _ _ _ w6 (HU.out w6 HB6.out).1 (HU.out w6 HB6.out).2.1
  rw [show decide (l = l) = true by simp] at H10
  clear H9 hw6 HB5
  go_wp2_with (go_at_call 18; refine (num_any _ _).mono ?_; rintro e w3 ⟨rfl, rfl⟩)
  refine H10.mono ?_
  rintro e w7 ⟨rfl, r, rfl⟩
  have HB7 : Hid (Below w.heap.size w (w6.drewN r)) := (HU.out _ (below_drewN HB6.out r)).2.2.2.2
  obtain ⟨w7, hw7⟩ : ∃ W, W = w6.drewN r := ⟨_, rfl⟩
  rw [← hw7] at HB7 ⊢
  clear H10 hw7 HB6 HU
  go_wp2_with fail
  refine (alive_any w7).mono ?_
  rintro e w8 ⟨rfl, hb8⟩
  go_wp2
  go_ret
  exact ⟨rfl, below_any HB7.out hb8⟩

set_option maxRecDepth 100000 in
theorem lifted (os : Os) (started : os.Started) (H : Type) (enc : TypeId × Value → H) :
    ReturnsInHanded {} Try.checked os 3 .any (Rows.blockmapTellsSpec.pre6 enc Try.prog Try.f3 Rows.blockmapTellsRow.domain false) (Rows.blockmapTellsSpec.post enc Try.prog Try.f3 false true false false) := by
  refine returnsInHanded_of_change_sized (C := Try.checked) own started (by kernel_rfl) Try.func3
    (ChangeSpec.witness6 (enc := enc) (C := Try.checked) false ⟨#[], #[.int .i64 0, .slice none 0 0, .int .i64 0, .int .i64 0, .int .i64 0], []⟩ 8 (by kernel_rfl) (by kernel_rfl) (by kernel_rfl) (by kernel_rfl)) ?_
  intro W base args ds gs before hval0 hW hcnd hsz0 _
  have hval : ∀ (j : Nat) t v, Try.f3.params[j]? = some t → args[j]? = some v → Value.okWide Try.prog W .any base t v := hval0
  have hW' := hW
  obtain ⟨p, q, hA0, hV, rfl, hfz, hnd⟩ := hW
  have hA : DataW.TrodAll enc Try.prog W 0 (fun _ => true) true Try.f3.params.toList args.toList ds p := hA0
  have hsz : (DataW.weightsEach Try.prog (Try.f3.params.toList ++ Rows.blockmapTellsSpec.plain.varTypes Try.prog) (ds ++ gs)).all (· ≤ reachBytes) = true := hsz0
  clear hsz0
  rw [Try.params3] at hA hval hsz
  obtain ⟨v0, vs0, d0, ds0, p0, q0, hargs, rfl, rfl, h0, r0⟩ := trodAll_cons hA
  obtain ⟨v1, vs1, d1, ds1, p1, q1, rfl, rfl, rfl, h1, r1⟩ := trodAll_cons r0
  obtain ⟨v2, vs2, d2, ds2, p2, q2, rfl, rfl, rfl, h2, r2⟩ := trodAll_cons r1
  obtain ⟨v3, vs3, d3, ds3, p3, q3, rfl, rfl, rfl, h3, r3⟩ := trodAll_cons r2
  obtain ⟨v4, vs4, d4, ds4, p4, q4, rfl, rfl, rfl, h4, r4⟩ := trodAll_cons r3
  obtain ⟨rfl, rfl, rfl⟩ := trodAll_nil r4
  obtain rfl : args = #[v0, v1, v2, v3, v4] := by cases args; simp_all
  obtain ⟨rfl, rfl⟩ := trodVars_none hV
  obtain ⟨a0, rfl, rfl, rfl, w0⟩ := open_int Try.underlying3 (hval 0 3 v0 rfl rfl) h0
  have b0 := bounds_i64 w0
  obtain ⟨x1, len1, cap1, rfl⟩ := okWide_slice Try.underlying22 (hval 1 22 v1 rfl rfl)
  have k1 := h1
  have lt1 : ∀ x ∈ p1, x.block < W.heap.size := by obtain ⟨m, hm⟩ := k1; exact DataW.trod_lt m _ _ _ hm
  obtain ⟨m1, hm1⟩ := h1
  obtain ⟨s1, A1, F1'⟩ := intsS.reads hm1
  have F1 := F1' fun n hn => by have := List.all_eq_true.1 hsz _ (DataW.weights_mem_each (j := 1) rfl rfl n hn); simpa using this
  obtain ⟨a2, rfl, rfl, rfl, w2⟩ := open_int Try.underlying3 (hval 2 3 v2 rfl rfl) h2
  have b2 := bounds_i64 w2
  obtain ⟨a3, rfl, rfl, rfl, w3⟩ := open_int Try.underlying3 (hval 3 3 v3 rfl rfl) h3
  have b3 := bounds_i64 w3
  obtain ⟨a4, rfl, rfl, rfl, w4⟩ := open_int Try.underlying3 (hval 4 3 v4 rfl rfl) h4
  have b4 := bounds_i64 w4
  clear hA0 hval0
  refine (walk a0 _ s1 a2 a3 a4 W b0 A1 (fits_of F1) b2 b3 b4).mono fun e W' ⟨he, bel⟩ => ?_
  subst he
  exact ⟨_, rfl, _, _, _, [], _, [], hW', trodAll_mk1 (shut_bool Try.underlying4 _), (trodAll_cons_mk (shut_int Try.underlying3 w0) (trodAll_cons_mk (Below.trod laidOut (by kernel_rfl) (of_decide_eq_true (by kernel_rfl)) k1 bel lt1) (trodAll_cons_mk (shut_int Try.underlying3 w2) (trodAll_cons_mk (shut_int Try.underlying3 w3) (trodAll_cons_mk (shut_int Try.underlying3 w4) trodAll_mk0))))), rfl, bel.frame _, fun h => by cases h⟩

theorem over : Rows.blockmapTellsRow.holds Try.pinned (OpenSpec.ofChange Rows.blockmapTellsSpec) :=
  OpenClaim.holds_of_wide 3 Try.f3 rfl rfl rfl rfl rfl rfl rfl ⟨rfl, rfl, rfl, rfl, rfl⟩ rfl rfl rfl rfl rfl (by kernel_rfl) Try.func3 (by kernel_rfl)
    (of_decide_eq_true (by kernel_rfl)) (by unfold Func.isWrapper; first | (rw [if_pos (by decide +kernel)]; kernel_rfl) | (rw [if_neg (by decide +kernel)]; exact ⟨rfl, rfl⟩))
    (fun os started H enc _ => lifted os started H enc)

end Go.Proofs.Ytlfdalckhpgpiaa.blockmapTells

namespace Go.Proofs.Ytlfdalckhpgpiaa
theorem blockmapTells_holds : Rows.BlockmapTellsSaid := blockmapTells.over
#print axioms blockmapTells_holds
end Go.Proofs.Ytlfdalckhpgpiaa
