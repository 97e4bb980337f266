/-
  DiskOwn, proved: for every disk of the document and octets (as great as the form reads them): the call returns true, and changes nothing that was in memory. No condition of its own.
-/
import Derived.Test.YtkeaillmcfnnkaaOpenDisk
import Derived.Test.YtkeaillmcfnnkaaRefPutAll
import Derived.Test.YtkeaillmcfnnkaaAlike
import Derived.Test.YtkeaillmcfnnkaaCrash
import Derived.Test.YtkeaillmcfnnkaaRaw
namespace Go.Proofs.Ytkeaillmcfnnkaa.diskOwn
open Go.ChangeShapes Go.WideShapes Go.ChangeAt Go.RowKit
set_option linter.unusedVariables false

theorem own_parts {base : Nat} {w : World} {e : TypeId} {v : Value} {S : St} (h : OwnDisk base w e v S) : ∃ a1 c1 a2 c2 n m, v = .agg #[.slice a1 n c1, .slice a2 m c2] := by
  obtain ⟨a1, c1, a2, c2, rfl, _⟩ := h.disk.shape
  exact ⟨a1, c1, a2, c2, _, _, rfl⟩
theorem Same.more {n n' : Nat} {w w' : World} (h : Same n w w') (hn : n ≤ n') : Same n' w w' := fun k hk hl => h k (by omega) hl

set_option maxRecDepth 100000 in
set_option maxHeartbeats 4000000 in
theorem walk (v vd : Value) (S : St) (d : List Int) (w : World) (h : Disk 0 w v S) (hf : Fits S) (hd : Arg 0 w vd d) (hdb : d.length ≤ 140737488351232) :
    Calls Try.prog 8 #[v, vd] w fun e w' => e = .returned (.bool true) ∧ Below w.heap.size w w' := by
  obtain ⟨a1, c1, a2, c2, rfl, _, _⟩ := h.shape
  obtain ⟨ad, cd, rfl, _⟩ := hd.shape
  have HD : Hid (∀ V, Below w.heap.size w V → Disk 0 V (.agg #[.slice a1 S.secs.length c1, .slice a2 S.cache.length c2]) S ∧ Arg 0 V (.slice ad d.length cd) d) := fun V hV => ⟨h.below hV, hd.below hV⟩
  have HF : Hid (Fits S ∧ d.length ≤ 140737488351232 ∧ Oct d) := ⟨hf, hdb, hd.2⟩
  obtain ⟨n, hn⟩ : ∃ n, n = S.secs.length := ⟨_, rfl⟩
  obtain ⟨m, hm⟩ : ∃ n, n = S.cache.length := ⟨_, rfl⟩
  obtain ⟨dl, hdl⟩ : ∃ n, n = d.length := ⟨_, rfl⟩
  rw [← hn, ← hm, ← hdl] at HD
  rw [← hn, ← hm, ← hdl]
  clear h hf hd hdb hn hm hdl
  obtain ⟨WA, hWA⟩ : ∃ W, W = w.alloc (.cells #[.slice a1 n c1, .slice a2 m c2] 25) := ⟨_, rfl⟩
  have hbA : Below w.heap.size w WA := by rw [hWA]; exact (Below.refl _ _).alloc (Nat.le_refl _) _
  have hBA : Box WA w.heap.size 25 (.slice a1 n c1) (.slice a2 m c2) := by rw [hWA]; exact Box.new _ _ _ _
  have HAL := alive_any WA
  go_enter Try.func8, Try.ntmps8
  go_wp2_with fail
  rw [← hWA]
  refine HAL.mono ?_
  rintro e W0 ⟨rfl, hb0⟩
  have HW0 : Hid (Below w.heap.size w W0 ∧ Box W0 w.heap.size 25 (.slice a1 n c1) (.slice a2 m c2) ∧ w.heap.size < W0.heap.size) := ⟨below_any hbA hb0, hBA.below hb0 hBA.lt, (hBA.below hb0 hBA.lt).lt⟩
  have b0 := HW0.out.2.1.cell0
  have b1 := HW0.out.2.1.cell1
  have H1 := of_any 0 _ S W0 (HD.out W0 HW0.out.1).1 HF.out.1
  clear HAL hWA hbA hBA hb0
  go_wp2_with fail
  refine H1.mono ?_
  rintro e w1 ⟨v1, rfl, ho1, hb1⟩
  clear H1 b0 b1
  obtain ⟨x1, y1, x2, y2, xn, xm, rfl⟩ := own_parts ho1
  have H2 := copy_any 0 _ d w1 (HD.out w1 (below_any HW0.out.1 hb1)).2 (by have := HF.out.2.1; omega)
  go_wp2_with fail
  refine H2.mono ?_
  rintro e w2 ⟨⟨v2, rfl, ho2⟩, hb2⟩
  obtain ⟨z1, zc, rfl⟩ := own_shape ho2
  obtain ⟨zl, hzl⟩ : ∃ n, n = d.length := ⟨_, rfl⟩
  obtain ⟨N, hN⟩ : ∃ N, N = w2.heap.size := ⟨_, rfl⟩
  have HX : Hid (RawL W0.heap.size N w2 (.slice x1 xn y1) xn ∧ RawW W0.heap.size N w2 (.slice x2 xm y2) xm ∧ Near W0.heap.size N w2 (.slice z1 zl zc) ∧ Below W0.heap.size W0 w2) := by
    obtain ⟨vs, vc, hv, hL, hW⟩ := id ho1
    obtain ⟨rfl, rfl⟩ : vs = .slice x1 xn y1 ∧ vc = .slice x2 xm y2 := by
      simp at hv
      exact ⟨hv.1.symm, hv.2.symm⟩
    obtain ⟨e1, f1, g1, _⟩ := hL.lists.shape
    obtain ⟨e2, f2, g2, _⟩ := hW.writes.shape
    obtain ⟨_, rfl, _⟩ := Value.slice.inj g1
    obtain ⟨_, rfl, _⟩ := Value.slice.inj g2
    refine ⟨(RawL.of hL (N := N) (by rw [hN]; exact hb2.size)).same (.of_below hb2), (RawW.of hW (N := N) (by rw [hN]; exact hb2.size)).same (.of_below hb2), ?_, below_any hb1 hb2⟩
    rw [hzl]
    exact Near.of (l := d) ⟨own_weaken ho2 hb1.size, HF.out.2.2⟩ (Nat.le_of_eq hN.symm)
  have HK2 : Hid (∀ V, Below w2.heap.size w2 V → Arg 0 V (.slice z1 zl zc) d ∧ Disk 0 V (.agg #[.slice x1 xn y1, .slice x2 xm y2]) S ∧ Below W0.heap.size W0 V) := fun V hV => ⟨by rw [hzl]; exact ((Arg.own ho2 HF.out.2.2).below hV).weaken (Nat.zero_le _), (ho1.disk.below (below_any hb2 hV)).weaken (Nat.zero_le _), below_any hb1 (below_any hb2 hV)⟩
  rw [← hzl]
  clear H2 ho2 hb2 hzl ho1 hb1
  obtain ⟨W2, hW2⟩ : ∃ W, W = w2.alloc (.cells #[.slice x1 xn y1, .slice x2 xm y2] 30) := ⟨_, rfl⟩
  have HW2 : Hid (Below w2.heap.size w2 W2 ∧ Box W2 N 30 (.slice x1 xn y1) (.slice x2 xm y2) ∧ N = w2.heap.size) := by
    refine ⟨?_, ?_, hN⟩
    · rw [hW2]; exact (Below.refl _ _).alloc (Nat.le_refl _) _
    · rw [hW2, hN]; exact Box.new _ _ _ _
  have b0 := HW2.out.2.1.cell0
  have b1 := HW2.out.2.1.cell1
  rw [hN] at b0 b1
  have hx2 := HK2.out W2 HW2.out.1
  have H3 := putAll_any 0 0 _ _ S 0 d W2 hx2.2.1 (by omega) hx2.1 HF.out.2.1
  rw [hW2] at b0 b1
  clear hx2
  go_wp2_with fail
  rw [← hW2, ← hN]
  refine H3.mono ?_
  rintro e w3 ⟨v3, rfl, ho3, hb3⟩
  clear H3 b0 b1 hW2 hN
  obtain ⟨p1, q1, p2, q2, pn, pm, rfl⟩ := own_parts ho3
  obtain ⟨W3, hW3⟩ : ∃ W, W = w3.alloc (.cells #[.slice p1 pn q1, .slice p2 pm q2] 30) := ⟨_, rfl⟩
  obtain ⟨B3, hB3⟩ : ∃ B, B = w3.heap.size := ⟨_, rfl⟩
  have HW3 : Hid (Below W2.heap.size W2 W3 ∧ Box W3 B3 30 (.slice p1 pn q1) (.slice p2 pm q2) ∧ OwnDisk W2.heap.size W3 64 (.agg #[.slice p1 pn q1, .slice p2 pm q2]) (past S 0 d) ∧ W2.heap.size ≤ B3) := by
    have hb : Below w3.heap.size w3 W3 := by rw [hW3]; exact (Below.refl _ _).alloc (Nat.le_refl _) _
    refine ⟨below_any hb3 hb, ?_, ho3.same (.of_below hb), by rw [hB3]; exact hb3.size⟩
    rw [hW3, hB3]; exact Box.new _ _ _ _
  have e1 := HK2.out W3 (below_any HW2.out.1 HW3.out.1)
  have hPB := HW0.out.2.1.below e1.2.2 HW0.out.2.1.lt
  have b0 := hPB.cell0
  have b1 := hPB.cell1
  have e2 := HD.out W3 (below_any HW0.out.1 e1.2.2)
  have H4 := rputAll_any 0 0 _ _ S 0 d W3 e2.1 (by omega) e2.2 HF.out.2.1
  rw [hW3] at b0 b1
  clear e1 e2 hPB ho3 hb3
  obtain ⟨pe, hpe⟩ : ∃ x, x = paerr S 0 d := ⟨_, rfl⟩
  rw [← hpe] at H4 ⊢
  clear hpe
  go_wp2_with fail
  rw [← hW3, ← hB3]
  refine H4.mono ?_
  rintro e w4 ⟨v4, rfl, ho4, hb4⟩
  clear H4 b0 b1 hW3 hB3
  obtain ⟨r1, t1, r2, t2, rn, rm, rfl⟩ := own_parts ho4
  obtain ⟨W4, hW4⟩ : ∃ W, W = w4.alloc (.cells #[.slice r1 rn t1, .slice r2 rm t2] 25) := ⟨_, rfl⟩
  obtain ⟨B4, hB4⟩ : ∃ B, B = w4.heap.size := ⟨_, rfl⟩
  have HV : Hid (SP w W4 W0.heap.size N (.slice x1 xn y1) (.slice x2 xm y2) xn xm W4 ∧ Near W0.heap.size N W4 (.slice z1 zl zc) ∧ Box W4 N 30 (.slice x1 xn y1) (.slice x2 xm y2) ∧ (Box W4 B3 30 (.slice p1 pn q1) (.slice p2 pm q2) ∧ N ≤ B3) ∧ (Box W4 B4 25 (.slice r1 rn t1) (.slice r2 rm t2) ∧ N ≤ B4) ∧
      OwnDisk N W4 64 (.agg #[.slice p1 pn q1, .slice p2 pm q2]) (past S 0 d) ∧ OwnDisk N W4 60 (.agg #[.slice r1 rn t1, .slice r2 rm t2]) (past S 0 d) ∧ w.heap.size ≤ W0.heap.size ∧ xn ≤ maxLen ∧ xm ≤ maxLen) := by
    have hb : Below w4.heap.size w4 W4 := by rw [hW4]; exact (Below.refl _ _).alloc (Nat.le_refl _) _
    have f3 : Below W3.heap.size W3 W4 := below_any hb4 hb
    have f2 : Below W2.heap.size W2 W4 := below_any HW3.out.1 f3
    have f1 : Below w2.heap.size w2 W4 := below_any HW2.out.1 f2
    have f0 : Below W0.heap.size W0 W4 := below_any HX.out.2.2.2 f1
    have hNW : N ≤ W2.heap.size := Nat.le_of_lt HW2.out.2.1.lt
    have hN3 : N ≤ W3.heap.size := Nat.le_trans hNW HW3.out.1.size
    obtain ⟨_, _, _, _, l1, _⟩ := (HK2.out w2 (Below.refl _ _)).2.1.shape
    obtain ⟨u1, o1, u2, o2, hv, hLL, hWW⟩ := (HK2.out w2 (Below.refl _ _)).2.1.shape
    have hv1 : xn = S.secs.length ∧ xm = S.cache.length := by
      simp at hv
      exact ⟨hv.1.2.1, hv.2.2.1⟩
    obtain ⟨_, _, _, _, m1, _⟩ := hLL.shape
    obtain ⟨_, _, _, _, m2, _⟩ := hWW.shape
    refine ⟨⟨fun _ _ _ => rfl, Nat.le_refl _, below_any HW0.out.1 f0, HX.out.1.same (.of_below f1), HX.out.2.1.same (.of_below f1)⟩, HX.out.2.2.1.same (.of_below f1), HW2.out.2.1.below f2 HW2.out.2.1.lt, ⟨HW3.out.2.1.below f3 HW3.out.2.1.lt, Nat.le_trans hNW HW3.out.2.2.2⟩, ⟨?_, ?_⟩, (HW3.out.2.2.1.same (.of_below f3)).weaken hNW, (ho4.same (.of_below hb)).weaken hN3, by have := HW0.out.2.2; omega, by rw [hv1.1]; exact m1, by rw [hv1.2]; exact m2⟩
    · rw [hW4, hB4]; exact Box.new _ _ _ _
    · rw [hB4]; exact Nat.le_trans hN3 hb4.size
  obtain ⟨za, zm, zcc, hz, hE, hzN⟩ := HV.out.2.1
  obtain ⟨rfl, rfl, rfl⟩ := Value.slice.inj hz
  have HE : Hid (Eight W0.heap.size W4 (.slice z1 zl zc) zl ∧ ∀ g, (Value.slice z1 zl zc).ownBlock = some g → g < N) := ⟨hE, hzN⟩
  have H5 := spoil_eight W0.heap.size (.slice z1 zl zc) zl W4 HE.out.1
  clear hz hE hzN HX HK2 HW2 HW3 HW0 HD HF ho4 hb4
  go_wp2_with fail
  rw [← hW4, ← hB4]
  refine H5.mono ?_
  rintro e w5 ⟨rfl, hg5, hE5⟩
  clear H5 hW4 hB4
  have HP5 : Hid (SP w W4 W0.heap.size N (.slice x1 xn y1) (.slice x2 xm y2) xn xm w5) := HV.out.1.step HV.out.2.2.2.2.2.2.2.1 HE.out.1 HE.out.2 hg5 hE5
  have hmx : xn ≤ maxLen := HV.out.2.2.2.2.2.2.2.2.1
  have hmy : xm ≤ maxLen := HV.out.2.2.2.2.2.2.2.2.2
  unfold maxLen at hmx hmy
  have hl1 := run_len Try.underlying22 x1 xn y1
  have hl2 := run_len Try.underlying28 x2 xm y2
  clear hg5 hE5 HE
  go_wp2
  go_loopw [11] (fun i wr => ∃ k : Nat, k ≤ xn ∧ i = .int .i64 k ∧ SP w W4 W0.heap.size N (.slice x1 xn y1) (.slice x2 xm y2) xn xm wr) (fun i _ => xn - (intOf i).toNat)
  case atStart => exact ⟨0, Nat.zero_le _, rfl, HP5.out⟩
  case round =>
    clear HP5
    obtain ⟨k, hk, rfl, hSP⟩ := hrel
    have HSP : Hid (SP w W4 W0.heap.size N (.slice x1 xn y1) (.slice x2 xm y2) xn xm wr) := hSP
    have hBX := hSP.keep HV.out.2.2.1 (Nat.le_refl _)
    by_cases hlt : k < xn
    · have b0 := hBX.cell0
      obtain ⟨b, o, a, mm, c, hix, hc, hE, hN⟩ := hSP.lists.at k hlt
      have HE : Hid (Eight W0.heap.size wr (.slice a mm c) mm ∧ ∀ g, (Value.slice a mm c).ownBlock = some g → g < N) := ⟨hE, hN⟩
      have H6 := spoil_eight W0.heap.size (.slice a mm c) mm wr hE
      have hki : (k : Int) < (xn : Int) := by omega
      clear hSP hBX hE hN
      go_wp2_with fail
      refine H6.mono ?_
      rintro e w6 ⟨rfl, hg6, hE6⟩
      have HP6 : Hid (SP w W4 W0.heap.size N (.slice x1 xn y1) (.slice x2 xm y2) xn xm w6) := HSP.out.step HV.out.2.2.2.2.2.2.2.1 HE.out.1 HE.out.2 hg6 hE6
      clear H6 hg6 hE6 b0 hix hc
      go_wp2
      go_roundw
      case rel => exact ⟨k + 1, by omega, by go_num, HP6.out⟩
      case measure => simp [intOf]; omega
    · obtain rfl : k = xn := by omega
      have b0 := hBX.cell0
      clear hSP hBX
      go_wp2
      go_loopw [12] (fun i wr => ∃ j : Nat, j ≤ xm ∧ i = .int .i64 j ∧ SP w W4 W0.heap.size N (.slice x1 k y1) (.slice x2 xm y2) k xm wr) (fun i _ => xm - (intOf i).toNat)
      case atStart => exact ⟨0, Nat.zero_le _, rfl, HSP.out⟩
      case round =>
        clear HSP b0
        obtain ⟨j, hj, rfl, hSP⟩ := hrel
        have HSP : Hid (SP w W4 W0.heap.size N (.slice x1 k y1) (.slice x2 xm y2) k xm wr) := hSP
        have hBX := hSP.keep HV.out.2.2.1 (Nat.le_refl _)
        by_cases hlt : j < xm
        · have b0 := hBX.cell1
          obtain ⟨b, o, a, mm, c, hix, hc, hE, hN⟩ := hSP.writes.at j hlt
          have HE : Hid (Eight W0.heap.size wr (.slice a mm c) mm ∧ ∀ g, (Value.slice a mm c).ownBlock = some g → g < N) := ⟨hE, hN⟩
          have H6 := spoil_eight W0.heap.size (.slice a mm c) mm wr hE
          have hki : (j : Int) < (xm : Int) := by omega
          clear hSP hBX hE hN
          go_wp2_with fail
          refine H6.mono ?_
          rintro e w6 ⟨rfl, hg6, hE6⟩
          have HP6 : Hid (SP w W4 W0.heap.size N (.slice x1 k y1) (.slice x2 xm y2) k xm w6) := HSP.out.step HV.out.2.2.2.2.2.2.2.1 HE.out.1 HE.out.2 hg6 hE6
          clear H6 hg6 hE6 b0 hix hc
          go_wp2
          go_roundw
          case rel => exact ⟨j + 1, by omega, by go_num, HP6.out⟩
          case measure => simp [intOf]; omega
        · obtain rfl : j = xm := by omega
          have b0 := hBX.cell1
          have hB3 := hSP.keep HV.out.2.2.2.1.1 HV.out.2.2.2.1.2
          have hB4 := hSP.keep HV.out.2.2.2.2.1.1 HV.out.2.2.2.2.1.2
          have b2 := hB3.cell0
          have b3 := hB3.cell1
          have b4 := hB4.cell0
          have b5 := hB4.cell1
          have H7 := alike_any N N _ _ _ wr (HV.out.2.2.2.2.2.1.same hSP.same).disk (HV.out.2.2.2.2.2.2.1.same hSP.same).disk
          clear hSP hBX hB3 hB4
          go_wp2_with (go_at_call 20; refine (num_any _ _).mono ?_; rintro e w3 ⟨rfl, rfl⟩)
          refine H7.mono ?_
          rintro e w7 ⟨rfl, hb7⟩
          have HB7 : Hid (Below w.heap.size w w7) := below_any HSP.out.bel hb7
          clear H7 hb7 b0 b2 b3 b4 b5
          go_wp2
          go_ret
          exact ⟨rfl, HB7.out⟩

set_option maxRecDepth 100000 in
theorem lifted (os : Os) (started : os.Started) (H : Type) (enc : TypeId × Value → H) :
    ReturnsInHanded {} Try.checked os 8 .any (Rows.diskOwnSpec.pre6 enc Try.prog Try.f8 Rows.diskOwnRow.domain false) (Rows.diskOwnSpec.post enc Try.prog Try.f8 false true false false) := by
  refine returnsInHanded_of_change_sized (C := Try.checked) own started (by kernel_rfl) Try.func8
    (ChangeSpec.witness6 (enc := enc) (C := Try.checked) false ⟨#[], #[.agg #[.slice none 0 0, .slice none 0 0], .slice none 0 0], []⟩ 8 (by kernel_rfl) (by kernel_rfl) (by kernel_rfl) (by kernel_rfl)) ?_
  intro W base args ds gs before hval0 hW hcnd hsz0 _
  have hval : ∀ (j : Nat) t v, Try.f8.params[j]? = some t → args[j]? = some v → Value.okWide Try.prog W .any base t v := hval0
  have hW' := hW
  obtain ⟨p, q, hA0, hV, rfl, hfz, hnd⟩ := hW
  have hA : DataW.TrodAll enc Try.prog W 0 (fun _ => true) true Try.f8.params.toList args.toList ds p := hA0
  have hsz : (DataW.weightsEach Try.prog (Try.f8.params.toList ++ Rows.diskOwnSpec.plain.varTypes Try.prog) (ds ++ gs)).all (· ≤ reachBytes) = true := hsz0
  clear hsz0
  rw [Try.params8] at hA hval hsz
  obtain ⟨v0, vs0, d0, ds0, p0, q0, hargs, rfl, rfl, h0, r0⟩ := trodAll_cons hA
  obtain ⟨v1, vs1, d1, ds1, p1, q1, rfl, rfl, rfl, h1, r1⟩ := trodAll_cons r0
  obtain ⟨rfl, rfl, rfl⟩ := trodAll_nil r1
  obtain rfl : args = #[v0, v1] := by cases args; simp_all
  obtain ⟨rfl, rfl⟩ := trodVars_none hV
  obtain ⟨cs0, rfl, hc0⟩ := okWide_struct Try.underlying25 (hval 0 25 v0 rfl rfl)
  have k0 := h0
  have lt0 : ∀ x ∈ p0, x.block < W.heap.size := by obtain ⟨m, hm⟩ := k0; exact DataW.trod_lt m _ _ _ hm
  obtain ⟨l0, e0, f0, A0, rfl, y0, z0⟩ := disk_of (hc0.trans cells25) h0
  have F0 : Fits l0 := fits_of y0 z0 fun n hn => by have := List.all_eq_true.1 hsz _ (DataW.weights_mem_each (j := 0) rfl rfl n hn); simpa using this
  obtain ⟨a1, len1, cap1, rfl⟩ := okWide_slice Try.underlying26 (hval 1 26 v1 rfl rfl)
  have k1 := h1
  have lt1 : ∀ x ∈ p1, x.block < W.heap.size := by obtain ⟨m, hm⟩ := k1; exact DataW.trod_lt m _ _ _ hm
  obtain ⟨l1, A1, D1⟩ := arg_of h1
  have s1 := arg_len hsz (j := 1) rfl rfl D1
  clear hA0 hval0
  refine (walk _ _ l0 l1 W A0 F0 A1 s1).mono fun e W' ⟨he, bel⟩ => ?_
  subst he
  exact ⟨_, rfl, _, _, _, [], _, [], hW', trodAll_mk1 (shut_bool Try.underlying4 _), (trodAll_cons_mk (Below.trod laidOut (by kernel_rfl) (of_decide_eq_true (by kernel_rfl)) k0 bel lt0) (trodAll_cons_mk (Below.trod laidOut (by kernel_rfl) (of_decide_eq_true (by kernel_rfl)) k1 bel lt1) trodAll_mk0)), rfl, bel.frame _, fun h => by cases h⟩

theorem over : Rows.diskOwnRow.holds Try.pinned (OpenSpec.ofChange Rows.diskOwnSpec) :=
  OpenClaim.holds_of_wide 8 Try.f8 rfl rfl rfl rfl rfl rfl rfl ⟨rfl, rfl, rfl, rfl, rfl⟩ rfl rfl rfl rfl rfl (by kernel_rfl) Try.func8 (by kernel_rfl)
    (of_decide_eq_true (by kernel_rfl)) (by unfold Func.isWrapper; first | (rw [if_pos (by decide +kernel)]; kernel_rfl) | (rw [if_neg (by decide +kernel)]; exact ⟨rfl, rfl⟩))
    (fun os started H enc _ => lifted os started H enc)

end Go.Proofs.Ytkeaillmcfnnkaa.diskOwn

namespace Go.Proofs.Ytkeaillmcfnnkaa
theorem diskOwn_holds : Rows.DiskOwnSaid := diskOwn.over
#print axioms diskOwn_holds
end Go.Proofs.Ytkeaillmcfnnkaa
