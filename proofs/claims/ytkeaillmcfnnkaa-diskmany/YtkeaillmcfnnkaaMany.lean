/-
  DiskMany, proved: for every disk of the document, number, octets and number (as great as the form reads them): the call returns true, and changes nothing that was in memory. No condition of its own.
-/
import Derived.Test.YtkeaillmcfnnkaaOpenDisk
import Derived.Test.YtkeaillmcfnnkaaRefPutAll
import Derived.Test.YtkeaillmcfnnkaaRefGet
import Derived.Test.YtkeaillmcfnnkaaAlike
import Derived.Test.YtkeaillmcfnnkaaCrash
import Derived.Test.YtkeaillmcfnnkaaTextMath
namespace Go.Proofs.Ytkeaillmcfnnkaa.diskMany
open Go.ChangeShapes Go.WideShapes Go.ChangeAt Go.RowKit
set_option linter.unusedVariables false

theorem gout_oct {S : St} (h : OctS S) (s k : Int) : Oct (gout S s k) := by
  unfold gout
  split
  · exact oct_window (oct_stand h _) _ _
  · intro x hx; cases hx

theorem own_parts {base : Nat} {w : World} {e : TypeId} {v : Value} {S : St} (h : OwnDisk base w e v S) : ∃ a1 c1 a2 c2 n m, v = .agg #[.slice a1 n c1, .slice a2 m c2] := by
  obtain ⟨a1, c1, a2, c2, rfl, _⟩ := h.disk.shape
  exact ⟨a1, c1, a2, c2, _, _, rfl⟩

set_option maxRecDepth 100000 in
set_option maxHeartbeats 4000000 in
theorem walk (v vd : Value) (S : St) (s : Int) (d : List Int) (k : Int) (w : World) (h : Disk 0 w v S) (hf : Fits S) (hs : -9223372036854775808 ≤ s ∧ s ≤ 9223372036854775807) (hd : Arg 0 w vd d) (hdb : d.length ≤ 140737488351232) :
    Calls Try.prog 4 #[v, .int .i64 s, vd, .int .i64 k] w fun e w' => e = .returned (.bool true) ∧ Below w.heap.size w w' := by
  obtain ⟨a1, c1, a2, c2, rfl, _, _⟩ := h.shape
  obtain ⟨ad, cd, rfl, _⟩ := hd.shape
  have HD : Hid (∀ V, Below w.heap.size w V → Disk 0 V (.agg #[.slice a1 S.secs.length c1, .slice a2 S.cache.length c2]) S ∧ Arg 0 V (.slice ad d.length cd) d) := fun V hV => ⟨h.below hV, hd.below hV⟩
  have HF : Hid (Fits S ∧ (-9223372036854775808 ≤ s ∧ s ≤ 9223372036854775807) ∧ d.length ≤ 140737488351232 ∧ OctS S ∧ Oct d) := ⟨hf, hs, hdb, h.oct, hd.2⟩
  obtain ⟨n, hn⟩ : ∃ n, n = S.secs.length := ⟨_, rfl⟩
  obtain ⟨m, hm⟩ : ∃ n, n = S.cache.length := ⟨_, rfl⟩
  obtain ⟨dl, hdl⟩ : ∃ n, n = d.length := ⟨_, rfl⟩
  rw [← hn, ← hm, ← hdl] at HD
  rw [← hn, ← hm, ← hdl]
  clear h hf hs hd hdb hn hm hdl
  obtain ⟨W0, hW0⟩ : ∃ W, W = w.alloc (.cells #[.slice a1 n c1, .slice a2 m c2] 25) := ⟨_, rfl⟩
  have HW0 : Hid (Below w.heap.size w W0 ∧ Box W0 w.heap.size 25 (.slice a1 n c1) (.slice a2 m c2) ∧ w.heap.size < W0.heap.size) := by
    refine ⟨?_, ?_, ?_⟩
    · rw [hW0]; exact (Below.refl _ _).alloc (Nat.le_refl _) _
    · rw [hW0]; exact Box.new _ _ _ _
    · rw [hW0]; simp
  have b0 := HW0.out.2.1.cell0
  have b1 := HW0.out.2.1.cell1
  have H1 := of_any 0 _ S W0 (HD.out W0 HW0.out.1).1 HF.out.1
  rw [hW0] at b0 b1
  go_enter Try.func4, Try.ntmps4
  go_wp2_with fail
  rw [← hW0]
  refine H1.mono ?_
  rintro e w1 ⟨v1, rfl, ho1, hb1⟩
  clear H1 hW0 b0 b1
  obtain ⟨x1, y1, x2, y2, xn, xm, rfl⟩ := own_parts ho1
  have HK1 : Hid (∀ V, Below w1.heap.size w1 V → Disk 0 V (.agg #[.slice x1 xn y1, .slice x2 xm y2]) S ∧ Below W0.heap.size W0 V) := fun V hV => ⟨(ho1.disk.below hV).weaken (Nat.zero_le _), below_any hb1 hV⟩
  have H2 := copy_any 0 _ d w1 (HD.out w1 (below_any HW0.out.1 hb1)).2 (by have := HF.out.2.2.1; omega)
  clear ho1 hb1
  go_wp2_with fail
  refine H2.mono ?_
  rintro e w2 ⟨⟨v2, rfl, ho2⟩, hb2⟩
  obtain ⟨z1, zc, rfl⟩ := own_shape ho2
  have HK2 : Hid (∀ V, Below w2.heap.size w2 V → Arg 0 V (.slice z1 d.length zc) d ∧ Below w1.heap.size w1 V) := fun V hV => ⟨((Arg.own ho2 HF.out.2.2.2.2).below hV).weaken (Nat.zero_le _), below_any hb2 hV⟩
  obtain ⟨zl, hzl⟩ : ∃ n, n = d.length := ⟨_, rfl⟩
  rw [← hzl] at HK2 ⊢
  clear H2 ho2 hb2 hzl
  obtain ⟨W2, hW2⟩ : ∃ W, W = w2.alloc (.cells #[.slice x1 xn y1, .slice x2 xm y2] 30) := ⟨_, rfl⟩
  obtain ⟨B2, hB2⟩ : ∃ B, B = w2.heap.size := ⟨_, rfl⟩
  have HW2 : Hid (Below w2.heap.size w2 W2 ∧ Box W2 B2 30 (.slice x1 xn y1) (.slice x2 xm y2)) := by
    refine ⟨?_, ?_⟩
    · rw [hW2]; exact (Below.refl _ _).alloc (Nat.le_refl _) _
    · rw [hW2, hB2]; exact Box.new _ _ _ _
  have b0 := HW2.out.2.cell0
  have b1 := HW2.out.2.cell1
  rw [hB2] at b0 b1
  have hx2 := HK2.out W2 HW2.out.1
  have H3 := putAll_any 0 0 _ _ S s d W2 (HK1.out W2 hx2.2).1 HF.out.2.1 hx2.1 HF.out.2.2.1
  rw [hW2] at b0 b1
  clear hx2
  go_wp2_with fail
  rw [← hW2, ← hB2]
  refine H3.mono ?_
  rintro e w3 ⟨v3, rfl, ho3, hb3⟩
  clear H3 b0 b1
  obtain ⟨p1, q1, p2, q2, pn, pm, rfl⟩ := own_parts ho3
  have HU3 : Hid (∀ V, Below w3.heap.size w3 V → Disk 0 V (.agg #[.slice p1 pn q1, .slice p2 pm q2]) (past S s d) ∧ Box V B2 30 (.slice x1 xn y1) (.slice x2 xm y2) ∧ Arg 0 V (.slice z1 zl zc) d ∧ Disk 0 V (.agg #[.slice x1 xn y1, .slice x2 xm y2]) S ∧ Box V w.heap.size 25 (.slice a1 n c1) (.slice a2 m c2) ∧ Disk 0 V (.agg #[.slice a1 n c1, .slice a2 m c2]) S ∧ Arg 0 V (.slice ad dl cd) d ∧ Below w.heap.size w V) := fun V hV => by
    have e1 := below_any hb3 hV
    have e2 := HK2.out V (below_any HW2.out.1 e1)
    have e3 := HK1.out V e2.2
    have e4 := below_any HW0.out.1 e3.2
    have e5 := HD.out V e4
    exact ⟨(ho3.disk.below hV).weaken (Nat.zero_le _), HW2.out.2.below e1 HW2.out.2.lt, e2.1, e3.1, HW0.out.2.1.below e3.2 HW0.out.2.1.lt, e5.1, e5.2, e4⟩
  clear ho3 hb3 hW2 hB2 HK1 HK2 HW0 HW2 HD
  obtain ⟨W3, hW3⟩ : ∃ W, W = w3.alloc (.cells #[.slice p1 pn q1, .slice p2 pm q2] 30) := ⟨_, rfl⟩
  obtain ⟨B3, hB3⟩ : ∃ B, B = w3.heap.size := ⟨_, rfl⟩
  have HW3 : Hid (Below w3.heap.size w3 W3 ∧ Box W3 B3 30 (.slice p1 pn q1) (.slice p2 pm q2)) := by
    refine ⟨?_, ?_⟩
    · rw [hW3]; exact (Below.refl _ _).alloc (Nat.le_refl _) _
    · rw [hW3, hB3]; exact Box.new _ _ _ _
  have hx := HU3.out W3 HW3.out.1
  have b0 := hx.2.2.2.2.1.cell0
  have b1 := hx.2.2.2.2.1.cell1
  have H4 := rputAll_any 0 0 _ _ S s d W3 hx.2.2.2.2.2.1 HF.out.2.1 hx.2.2.2.2.2.2.1 HF.out.2.2.1
  rw [hW3] at b0 b1
  clear hx
  obtain ⟨pe, hpe⟩ : ∃ x, x = paerr S s d := ⟨_, rfl⟩
  rw [← hpe] at H4 ⊢
  clear hpe
  go_wp2_with fail
  rw [← hW3, ← hB3]
  refine H4.mono ?_
  rintro e w4 ⟨v4, rfl, ho4, hb4⟩
  clear H4 b0 b1 hW3 hB3
  obtain ⟨r1, t1, r2, t2, rn, rm, rfl⟩ := own_parts ho4
  have HU4 : Hid (∀ V, Below w4.heap.size w4 V → Disk 0 V (.agg #[.slice r1 rn t1, .slice r2 rm t2]) (past S s d) ∧ Box V B3 30 (.slice p1 pn q1) (.slice p2 pm q2) ∧ Below w3.heap.size w3 V) := fun V hV => by
    have e1 := below_any hb4 hV
    exact ⟨(ho4.disk.below hV).weaken (Nat.zero_le _), HW3.out.2.below e1 HW3.out.2.lt, below_any HW3.out.1 e1⟩
  clear ho4 hb4 HW3
  obtain ⟨W4, hW4⟩ : ∃ W, W = w4.alloc (.cells #[.slice r1 rn t1, .slice r2 rm t2] 25) := ⟨_, rfl⟩
  obtain ⟨B4, hB4⟩ : ∃ B, B = w4.heap.size := ⟨_, rfl⟩
  have HW4 : Hid (Below w4.heap.size w4 W4 ∧ Box W4 B4 25 (.slice r1 rn t1) (.slice r2 rm t2)) := by
    refine ⟨?_, ?_⟩
    · rw [hW4]; exact (Below.refl _ _).alloc (Nat.le_refl _) _
    · rw [hW4, hB4]; exact Box.new _ _ _ _
  have hx := HU3.out W4 (HU4.out W4 HW4.out.1).2.2
  have b0 := hx.2.1.cell0
  have b1 := hx.2.1.cell1
  have H5 := getAll_any 0 _ S s k W4 hx.2.2.2.1 HF.out.2.1
  rw [hW4] at b0 b1
  clear hx
  obtain ⟨ge, hge⟩ : ∃ x, x = gerr S s k := ⟨_, rfl⟩
  rw [← hge] at H5
  go_wp2_with fail
  rw [← hW4, ← hB4]
  refine H5.mono ?_
  rintro e w5 ⟨v5, rfl, ho5, hb5⟩
  clear H5 b0 b1 hW4 hB4
  obtain ⟨g1, gc1, rfl⟩ := own_shape ho5
  have HU5 : Hid (∀ V, Below w5.heap.size w5 V → Arg 0 V (.slice g1 (gout S s k).length gc1) (gout S s k) ∧ Box V B4 25 (.slice r1 rn t1) (.slice r2 rm t2) ∧ Below w4.heap.size w4 V) := fun V hV => by
    have e1 := below_any hb5 hV
    exact ⟨((Arg.own ho5 (gout_oct HF.out.2.2.2.1 _ _)).below hV).weaken (Nat.zero_le _), HW4.out.2.below e1 HW4.out.2.lt, below_any HW4.out.1 e1⟩
  clear ho5 hb5 HW4
  have hx := HU3.out w5 (HU4.out w5 (HU5.out w5 (Below.refl _ _)).2.2).2.2
  have b0 := hx.2.2.2.2.1.cell0
  have b1 := hx.2.2.2.2.1.cell1
  have H6 := rgetAll_any 0 _ S s k w5 hx.2.2.2.2.2.1 HF.out.2.1
  rw [← hge] at H6
  clear hx hge
  obtain ⟨gl, hgl⟩ : ∃ x, x = (gout S s k).length := ⟨_, rfl⟩
  rw [← hgl] at HU5 ⊢
  go_wp2_with fail
  refine H6.mono ?_
  rintro e w6 ⟨v6, rfl, ho6, hb6⟩
  clear H6 b0 b1
  obtain ⟨g2, gc2, rfl⟩ := own_shape ho6
  have HU6 : Hid (∀ V, Below w6.heap.size w6 V → Arg 0 V (.slice g2 (gout S s k).length gc2) (gout S s k) ∧ Arg 0 V (.slice g1 gl gc1) (gout S s k) ∧ (Box V B4 25 (.slice r1 rn t1) (.slice r2 rm t2) ∧ Box V B3 30 (.slice p1 pn q1) (.slice p2 pm q2) ∧ Box V B2 30 (.slice x1 xn y1) (.slice x2 xm y2) ∧ Box V w.heap.size 25 (.slice a1 n c1) (.slice a2 m c2)) ∧
      (Disk 0 V (.agg #[.slice r1 rn t1, .slice r2 rm t2]) (past S s d) ∧ Disk 0 V (.agg #[.slice p1 pn q1, .slice p2 pm q2]) (past S s d) ∧ Disk 0 V (.agg #[.slice x1 xn y1, .slice x2 xm y2]) S ∧ Disk 0 V (.agg #[.slice a1 n c1, .slice a2 m c2]) S) ∧ Arg 0 V (.slice z1 zl zc) d ∧ Arg 0 V (.slice ad dl cd) d ∧ Below w.heap.size w V) := fun V hV => by
    have e5 := HU5.out V (below_any hb6 hV)
    have e4 := HU4.out V e5.2.2
    have e3 := HU3.out V e4.2.2
    exact ⟨((Arg.own ho6 (gout_oct HF.out.2.2.2.1 _ _)).below hV).weaken (Nat.zero_le _), e5.1, ⟨e5.2.1, e4.2.1, e3.2.1, e3.2.2.2.2.1⟩, ⟨e4.1, e3.1, e3.2.2.2.1, e3.2.2.2.2.2.1⟩, e3.2.2.1, e3.2.2.2.2.2.2.1, e3.2.2.2.2.2.2.2⟩
  rw [← hgl] at HU6 ⊢
  clear ho6 hb6 HU3 HU4 HU5 hgl
  have hx := HU6.out w6 (Below.refl _ _)
  have b0 := hx.2.2.1.1.cell0
  have b1 := hx.2.2.1.1.cell1
  have b2 := hx.2.2.1.2.1.cell0
  have b3 := hx.2.2.1.2.1.cell1
  have H7 := alike_any 0 0 _ _ _ w6 hx.2.2.2.1.2.1 hx.2.2.2.1.1
  clear hx
  go_wp2_with fail
  refine H7.mono ?_
  rintro e w7 ⟨rfl, hb7⟩
  clear H7 b0 b1 b2 b3
  have H8 := same_any 0 0 _ _ _ _ w7 (HU6.out w7 hb7).2.1 (HU6.out w7 hb7).1
  rw [show decide (gout S s k = gout S s k) = true by simp] at H8
  go_wp2_with (go_at_call 20; refine (num_any _ _).mono ?_; rintro e w3 ⟨rfl, rfl⟩)
  refine H8.mono ?_
  rintro e w8 ⟨rfl, q, rfl⟩
  clear H8
  obtain ⟨w8, hw8⟩ : ∃ W, W = w7.drewN q := ⟨_, rfl⟩
  have hb8 : Below w6.heap.size w6 w8 := by rw [hw8]; exact below_drewN hb7 q
  rw [← hw8]
  clear hw8 hb7
  have hx := HU6.out w8 hb8
  have b0 := hx.2.2.1.2.2.1.cell0
  have b1 := hx.2.2.1.2.2.1.cell1
  have b2 := hx.2.2.1.2.2.2.cell0
  have b3 := hx.2.2.1.2.2.2.cell1
  have H9 := alike_any 0 0 _ _ _ w8 hx.2.2.2.1.2.2.1 hx.2.2.2.1.2.2.2
  clear hx
  go_wp2_with (go_at_call 20; refine (num_any _ _).mono ?_; rintro e w3 ⟨rfl, rfl⟩)
  refine H9.mono ?_
  rintro e w9 ⟨rfl, hb9⟩
  clear H9 b0 b1 b2 b3
  have hb9' : Below w6.heap.size w6 w9 := below_any hb8 hb9
  clear hb9 hb8
  have H10 := same_any 0 0 _ _ _ _ w9 (HU6.out w9 hb9').2.2.2.2.1 (HU6.out w9 hb9').2.2.2.2.2.1
  rw [show decide (d = d) = true by simp] at H10
  go_wp2_with fail
  refine H10.mono ?_
  rintro e w10 ⟨rfl, r, rfl⟩
  clear H10
  have HB : Hid (Below w.heap.size w (w9.drewN r)) := (HU6.out _ (below_drewN hb9' r)).2.2.2.2.2.2
  obtain ⟨w10, hw10⟩ : ∃ W, W = w9.drewN r := ⟨_, rfl⟩
  rw [← hw10] at HB ⊢
  clear hw10 hb9' HU6
  go_wp2_with fail
  refine (alive_any w10).mono ?_
  rintro e w11 ⟨rfl, hb11⟩
  go_wp2
  go_ret
  exact ⟨rfl, below_any HB.out hb11⟩

set_option maxRecDepth 100000 in
theorem lifted (os : Os) (started : os.Started) (H : Type) (enc : TypeId × Value → H) :
    ReturnsInHanded {} Try.checked os 4 .any (Rows.diskManySpec.pre6 enc Try.prog Try.f4 Rows.diskManyRow.domain false) (Rows.diskManySpec.post enc Try.prog Try.f4 false true false false) := by
  refine returnsInHanded_of_change_sized (C := Try.checked) own started (by kernel_rfl) Try.func4
    (ChangeSpec.witness6 (enc := enc) (C := Try.checked) false ⟨#[], #[.agg #[.slice none 0 0, .slice none 0 0], .int .i64 0, .slice none 0 0, .int .i64 0], []⟩ 8 (by kernel_rfl) (by kernel_rfl) (by kernel_rfl) (by kernel_rfl)) ?_
  intro W base args ds gs before hval0 hW hcnd hsz0 _
  have hval : ∀ (j : Nat) t v, Try.f4.params[j]? = some t → args[j]? = some v → Value.okWide Try.prog W .any base t v := hval0
  have hW' := hW
  obtain ⟨p, q, hA0, hV, rfl, hfz, hnd⟩ := hW
  have hA : DataW.TrodAll enc Try.prog W 0 (fun _ => true) true Try.f4.params.toList args.toList ds p := hA0
  have hsz : (DataW.weightsEach Try.prog (Try.f4.params.toList ++ Rows.diskManySpec.plain.varTypes Try.prog) (ds ++ gs)).all (· ≤ reachBytes) = true := hsz0
  clear hsz0
  rw [Try.params4] at hA hval hsz
  obtain ⟨v0, vs0, d0, ds0, p0, q0, hargs, rfl, rfl, h0, r0⟩ := trodAll_cons hA
  obtain ⟨v1, vs1, d1, ds1, p1, q1, rfl, rfl, rfl, h1, r1⟩ := trodAll_cons r0
  obtain ⟨v2, vs2, d2, ds2, p2, q2, rfl, rfl, rfl, h2, r2⟩ := trodAll_cons r1
  obtain ⟨v3, vs3, d3, ds3, p3, q3, rfl, rfl, rfl, h3, r3⟩ := trodAll_cons r2
  obtain ⟨rfl, rfl, rfl⟩ := trodAll_nil r3
  obtain rfl : args = #[v0, v1, v2, v3] := by cases args; simp_all
  obtain ⟨rfl, rfl⟩ := trodVars_none hV
  obtain ⟨cs0, rfl, hc0⟩ := okWide_struct Try.underlying25 (hval 0 25 v0 rfl rfl)
  have k0 := h0
  have lt0 : ∀ x ∈ p0, x.block < W.heap.size := by obtain ⟨m, hm⟩ := k0; exact DataW.trod_lt m _ _ _ hm
  obtain ⟨l0, e0, f0, A0, rfl, y0, z0⟩ := disk_of (hc0.trans cells25) h0
  have F0 : Fits l0 := fits_of y0 z0 fun n hn => by have := List.all_eq_true.1 hsz _ (DataW.weights_mem_each (j := 0) rfl rfl n hn); simpa using this
  obtain ⟨a1, rfl, rfl, rfl, w1⟩ := open_int Try.underlying3 (hval 1 3 v1 rfl rfl) h1
  have b1 := bounds_i64 w1
  obtain ⟨a2, len2, cap2, rfl⟩ := okWide_slice Try.underlying26 (hval 2 26 v2 rfl rfl)
  have k2 := h2
  have lt2 : ∀ x ∈ p2, x.block < W.heap.size := by obtain ⟨m, hm⟩ := k2; exact DataW.trod_lt m _ _ _ hm
  obtain ⟨l2, A2, D2⟩ := arg_of h2
  have s2 := arg_len hsz (j := 2) rfl rfl D2
  obtain ⟨a3, rfl, rfl, rfl, w3⟩ := open_int Try.underlying3 (hval 3 3 v3 rfl rfl) h3
  have b3 := bounds_i64 w3
  clear hA0 hval0
  refine (walk _ _ l0 a1 l2 a3 W A0 F0 b1 A2 s2).mono fun e W' ⟨he, bel⟩ => ?_
  subst he
  exact ⟨_, rfl, _, _, _, [], _, [], hW', trodAll_mk1 (shut_bool Try.underlying4 _), (trodAll_cons_mk (Below.trod laidOut (by kernel_rfl) (of_decide_eq_true (by kernel_rfl)) k0 bel lt0) (trodAll_cons_mk (shut_int Try.underlying3 w1) (trodAll_cons_mk (Below.trod laidOut (by kernel_rfl) (of_decide_eq_true (by kernel_rfl)) k2 bel lt2) (trodAll_cons_mk (shut_int Try.underlying3 w3) trodAll_mk0)))), rfl, bel.frame _, fun h => by cases h⟩

theorem over : Rows.diskManyRow.holds Try.pinned (OpenSpec.ofChange Rows.diskManySpec) :=
  OpenClaim.holds_of_wide 4 Try.f4 rfl rfl rfl rfl rfl rfl rfl ⟨rfl, rfl, rfl, rfl, rfl⟩ rfl rfl rfl rfl rfl (by kernel_rfl) Try.func4 (by kernel_rfl)
    (of_decide_eq_true (by kernel_rfl)) (by unfold Func.isWrapper; first | (rw [if_pos (by decide +kernel)]; kernel_rfl) | (rw [if_neg (by decide +kernel)]; exact ⟨rfl, rfl⟩))
    (fun os started H enc _ => lifted os started H enc)

end Go.Proofs.Ytkeaillmcfnnkaa.diskMany

namespace Go.Proofs.Ytkeaillmcfnnkaa
theorem diskMany_holds : Rows.DiskManySaid := diskMany.over
#print axioms diskMany_holds
end Go.Proofs.Ytkeaillmcfnnkaa
