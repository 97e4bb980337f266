/-
  DiskOldOrNew, proved: for every disk of the document and list of truths (as great as the form reads them): the call returns true, and changes nothing that was in memory. No condition of its own.
-/
import Derived.Test.YtkeaillmcfnnkaaOldMath
import Derived.Test.YtkeaillmcfnnkaaOpenDisk
namespace Go.Proofs.Ytkeaillmcfnnkaa.diskOldOrNew
open Go.ChangeShapes Go.WideShapes Go.ChangeAt Go.RowKit
set_option linter.unusedVariables false

set_option maxRecDepth 100000 in
set_option maxHeartbeats 2000000 in
theorem walk (v vk : Value) (S : St) (bl : List Bool) (w : World) (h : Disk 0 w v S) (hf : Fits S) (hk : Bools 0 w vk bl) :
    Calls Try.prog 6 #[v, vk] w fun e w' => e = .returned (.bool true) ∧ Below w.heap.size w w' := by
  obtain ⟨a1, c1, a2, c2, rfl, hL, hW⟩ := h.shape
  obtain ⟨ka, kc, rfl, _⟩ := Cells.shape hk
  obtain ⟨_, _, _, _, hm1, _⟩ := hL.shape
  obtain ⟨_, _, _, _, hm2, _⟩ := hW.shape
  obtain ⟨i0, hi0, _, hz0, _⟩ := info_parts Try.info60
  have HD : Hid (Disk 0 w (.agg #[.slice a1 S.secs.length c1, .slice a2 S.cache.length c2]) S ∧ Fits S ∧ Bools 0 w (.slice ka bl.length kc) bl) := ⟨h, hf, hk⟩
  have HLW : Hid (Lists 0 w (.slice a1 S.secs.length c1) S.secs ∧ Writes 0 w (.slice a2 S.cache.length c2) S.cache) := ⟨hL, hW⟩
  obtain ⟨n, hn⟩ : ∃ n, n = S.secs.length := ⟨_, rfl⟩
  obtain ⟨m, hm⟩ : ∃ n, n = S.cache.length := ⟨_, rfl⟩
  have HN : Hid (n = S.secs.length ∧ m = S.cache.length) := ⟨hn, hm⟩
  rw [← hn, ← hm] at HD HLW ⊢
  rw [← hn] at hm1
  rw [← hm] at hm2
  unfold maxLen at hm1 hm2
  have hl1 := run_len Try.underlying22 a1 n c1
  have hl2 := run_len Try.underlying23 a2 m c2
  clear h hf hk hL hW hn hm
  go_enter Try.func6, Try.ntmps6
  go_wp2_with fail
  have hb0 : Below w.heap.size w (w.alloc (.cells #[.slice a1 n c1, .slice a2 m c2] 25)) := (Below.refl _ w).alloc (Nat.le_refl _) _
  refine (alive_any _).mono ?_
  rintro e w1 ⟨rfl, hb1⟩
  have hP1 : Box w1 w.heap.size 25 (.slice a1 n c1) (.slice a2 m c2) := (Box.new w 25 _ _).below hb1 (by simp)
  have HB1 : Hid (Box w1 w.heap.size 25 (.slice a1 n c1) (.slice a2 m c2) ∧ Below w.heap.size w w1) := ⟨hP1, below_any hb0 hb1⟩
  have g0 := hP1.cell0
  have g1 := hP1.cell1
  clear hb0 hb1 hP1
  go_wp2_with fail
  refine (of_any 0 _ S w1 (HD.out.1.below HB1.out.2) HD.out.2.1).mono ?_
  rintro e w2 ⟨vx, rfl, hO2, hb2⟩
  have hDx := hO2.disk
  obtain ⟨x1, y1, x2, y2, rfl, _, _⟩ := hDx.shape
  rw [← HN.out.1, ← HN.out.2] at hDx ⊢
  have HB2 : Hid (Box w2 w.heap.size 25 (.slice a1 n c1) (.slice a2 m c2) ∧ Below w.heap.size w w2 ∧ Disk w1.heap.size w2 (.agg #[.slice x1 n y1, .slice x2 m y2]) S) := ⟨HB1.out.1.below hb2 HB1.out.1.lt, below_any HB1.out.2 hb2, hDx⟩
  clear g0 g1 hO2 hDx hb2
  go_wp2_with fail
  refine (crash_any w1.heap.size 0 _ _ S bl w2 HB2.out.2.2 (HD.out.2.2.below HB2.out.2.1)).mono ?_
  rintro e w3 ⟨vt, rfl, hD3, hb3⟩
  obtain ⟨t1, u1, t2, u2, rfl, _, _⟩ := hD3.shape
  obtain ⟨tn, htn⟩ : ∃ x, x = (stand S (kept bl)).secs.length := ⟨_, rfl⟩
  obtain ⟨tm, htm⟩ : ∃ x, x = (stand S (kept bl)).cache.length := ⟨_, rfl⟩
  rw [← htn, ← htm] at hD3 ⊢
  have HTN : Hid (tn = (stand S (kept bl)).secs.length ∧ tm = (stand S (kept bl)).cache.length) := ⟨htn, htm⟩
  obtain ⟨W3, hW3⟩ : ∃ W, W = w3.alloc (.cells #[.slice t1 tn u1, .slice t2 tm u2] 30) := ⟨_, rfl⟩
  have hbW3 : Below w3.heap.size w3 W3 := by rw [hW3]; exact (Below.refl _ _).alloc (Nat.le_refl _) _
  have hb23 : Below w2.heap.size w2 W3 := below_any hb3 hbW3
  have HW3 : Hid (Box W3 w.heap.size 25 (.slice a1 n c1) (.slice a2 m c2) ∧ Box W3 w3.heap.size 30 (.slice t1 tn u1) (.slice t2 tm u2) ∧ Disk 0 W3 (.agg #[.slice t1 tn u1, .slice t2 tm u2]) (stand S (kept bl)) ∧ Below w.heap.size w W3) :=
    ⟨HB2.out.1.below hb23 HB2.out.1.lt, by rw [hW3]; exact Box.new _ _ _ _, (hD3.below hbW3).weaken (Nat.zero_le _), below_any HB2.out.2.1 hb23⟩
  have g0 := HW3.out.2.1.cell0
  have g1 := HW3.out.2.1.cell1
  rw [hW3] at g0 g1
  have hlt1 := run_len Try.underlying22 t1 tn u1
  have hlt2 := run_len Try.underlying28 t2 tm u2
  unfold cerr
  clear hD3 hb3 hbW3 hb23 htn htm
  cases hchk : chk S
  · have e1 : tn = 0 := by rw [HTN.out.1, stand_bad hchk]; rfl
    subst e1
    have HB : Hid (Below w.heap.size w (w3.alloc (.cells #[.slice t1 0 u1, .slice t2 tm u2] 30))) := by
      have := HW3.out.2.2.2
      rw [hW3] at this
      exact this
    clear hW3
    go_wp2_with (go_at_call 20; refine (num_any _ _).mono ?_; rintro e w6 ⟨rfl, rfl⟩)
    go_ret
    exact ⟨rfl, HB.out⟩
  · obtain ⟨T, hT1, hT2, hT3, hT4⟩ := stand_old hchk (kept bl)
    rw [hT1] at HW3 HTN
    have HT : Hid (chk ⟨T, []⟩ = true ∧ T.length = n ∧ (∀ k, k < n → ∃ r, T[k]? = some r ∧ okv S k m r = true) ∧ tm = 0) := ⟨hT2, by rw [HN.out.1]; exact hT3, by rw [HN.out.1, HN.out.2]; exact hT4, HTN.out.2⟩
    clear hT1 hT2 hT3 hT4
    go_wp2_with (go_at_call 20; refine (num_any _ _).mono ?_; rintro e w6 ⟨rfl, rfl⟩)
    rw [← hW3]
    clear hW3 g0 g1
    go_loopw [7] (fun i wr => ∃ k : Nat, k ≤ n ∧ i = .int .i64 k ∧ Below W3.heap.size W3 wr) (fun i _ => n - (intOf i).toNat)
    case atStart => exact ⟨0, Nat.zero_le _, rfl, Below.refl _ _⟩
    case round =>
      obtain ⟨k, hkn, rfl, hbx⟩ := hrel
      have hBs := HW3.out.1.below hbx HW3.out.1.lt
      have hBt := HW3.out.2.1.below hbx HW3.out.2.1.lt
      have g0 := hBs.cell0
      have g1 := hBs.cell1
      have g2 := hBt.cell0
      have g3 := hBt.cell1
      have HBX : Hid (Below W3.heap.size W3 wr ∧ Below w.heap.size w wr) := ⟨hbx, below_any HW3.out.2.2.2 hbx⟩
      clear hBs hBt hbx
      by_cases hlt : k < n
      · obtain ⟨r, hr1, hr2⟩ := HT.out.2.2.1 k hlt
        obtain ⟨q1, q2⟩ := get_again HT.out.1 k r hr1
        have hl : ∃ sk, S.secs[k]? = some sk := ⟨S.secs[k]'(by rw [← HN.out.1]; exact hlt), List.getElem?_eq_getElem (by rw [← HN.out.1]; exact hlt)⟩
        obtain ⟨sk, hsk⟩ := hl
        have hget := get_any 0 _ ⟨T, []⟩ (k : Int) wr (HW3.out.2.2.1.below HBX.out.1) (by omega)
        rw [q1, q2] at hget
        have ho : OctS ⟨T, []⟩ := HW3.out.2.2.1.oct
        have HR : Hid (okv S k m r = true ∧ S.secs[k]? = some sk ∧ Oct r) := ⟨hr2, hsk, ho.1 r (List.mem_of_getElem? hr1)⟩
        obtain ⟨rn, hrn⟩ : ∃ x, x = r.length := ⟨_, rfl⟩
        have HRN : Hid (rn = r.length) := hrn
        rw [← hrn] at hget
        clear hr1 hr2 q1 q2 hsk ho hrn
        have hki : (k : Int) < (n : Int) := by omega
        go_wp2_with fail
        refine hget.mono ?_
        rintro e w4 ⟨vb, rfl, hOb, hb4⟩
        obtain ⟨xb, cb, rfl⟩ := own_shape hOb
        have HA4 : Hid (Arg 0 w4 (.slice xb rn cb) r ∧ Below W3.heap.size W3 w4 ∧ Below w.heap.size w w4) := by
          refine ⟨Arg.weaken (.own (n0 := wr.heap.size) (by rw [← HRN.out]; exact hOb) HR.out.2.2) (Nat.zero_le _), below_any HBX.out.1 hb4, below_any HBX.out.2 hb4⟩
        have hBs := HW3.out.1.below HA4.out.2.1 HW3.out.1.lt
        clear g0 g1 g2 g3 hget hOb hb4
        have g0 := hBs.cell0
        have g1 := hBs.cell1
        clear hBs
        obtain ⟨b1, o1, x1, cp1, hix1, _, hc1, hA1⟩ := (HLW.out.1.below HA4.out.2.2).at k sk HR.out.2.1
        have HS := same_any 0 0 _ _ r sk w4 HA4.out.1 hA1
        clear hA1
        go_wp2_with fail
        refine HS.mono ?_
        rintro e w5 ⟨rfl, p1, rfl⟩
        have HOK0 : Hid (okv S k 0 r = decide (r = sk)) := by
          show _ = _
          simp [okv, List.getD, HR.out.2.1]
        have HA5 : Hid (Arg 0 (w4.drewN p1) (.slice xb rn cb) r ∧ Below W3.heap.size W3 (w4.drewN p1) ∧ Below w.heap.size w (w4.drewN p1)) := by
          have hd := below_drewN (Below.refl w4.heap.size w4) p1
          exact ⟨HA4.out.1.below hd, below_any HA4.out.2.1 hd, below_any HA4.out.2.2 hd⟩
        obtain ⟨W5, hW5⟩ : ∃ W, W = w4.drewN p1 := ⟨_, rfl⟩
        rw [← hW5] at HA5 ⊢
        clear HA4 hW5 HS hc1 hix1 g0 g1
        rw [← HOK0.out]
        go_wp2_with fail
        go_loopw [10, 11] (fun x i wr => ∃ j : Nat, j ≤ m ∧ x = .bool (okv S k j r) ∧ i = .int .i64 j ∧ Below W5.heap.size W5 wr) (fun _ i _ => m - (intOf i).toNat)
        case atStart => exact ⟨0, Nat.zero_le _, rfl, rfl, Below.refl _ _⟩
        case round =>
          obtain ⟨j, hjm, rfl, rfl, hbj⟩ := hrel
          have HB6 : Hid (Arg 0 wr (.slice xb rn cb) r ∧ Below W3.heap.size W3 wr ∧ Below w.heap.size w wr ∧ Below W5.heap.size W5 wr) := ⟨HA5.out.1.below hbj, below_any HA5.out.2.1 hbj, below_any HA5.out.2.2 hbj, hbj⟩
          have hBs := HW3.out.1.below HB6.out.2.1 HW3.out.1.lt
          have g0 := hBs.cell0
          have g1 := hBs.cell1
          clear hBs hbj
          by_cases hjl : j < m
          · obtain ⟨q, hq⟩ : ∃ q, S.cache[j]? = some q := ⟨S.cache[j]'(by rw [← HN.out.2]; exact hjl), List.getElem?_eq_getElem (by rw [← HN.out.2]; exact hjl)⟩
            have HQ : Hid (okv S k (j + 1) r = (okv S k j r || (decide (q.1 = (k : Int)) && decide (r = q.2)))) := okv_succ S k j r q hq
            obtain ⟨b1, o1, x1, cp1, hix1, _, hs1, hc1, hA1, _⟩ := (HLW.out.2.below HB6.out.2.2.1).at Try.underlying23 hi0 hz0 j q hq
            have HS := same_any 0 0 _ _ r q.2 wr HB6.out.1 hA1
            have hji : (j : Int) < (m : Int) := by omega
            clear hA1 hq
            cases hok : okv S k j r
            · by_cases hqk : q.1 = (k : Int)
              · rw [hqk] at hs1
                go_wp2_with fail
                refine HS.mono ?_
                rintro e w6 ⟨rfl, p2, rfl⟩
                go_wp2
                go_roundw
                case rel => exact ⟨j + 1, by omega, by rw [HQ.out, hok, hqk]; simp, by go_num, below_drewN HB6.out.2.2.2 _⟩
                case measure => simp [intOf]; omega
              · go_wp2
                go_roundw
                case rel => exact ⟨j + 1, by omega, by rw [HQ.out, hok]; simp [hqk], by go_num, HB6.out.2.2.2⟩
                case measure => simp [intOf]; omega
            · go_wp2
              go_roundw
              case rel => exact ⟨j + 1, by omega, by rw [HQ.out, hok]; rfl, by go_num, HB6.out.2.2.2⟩
              case measure => simp [intOf]; omega
          · obtain rfl : j = m := by omega
            have hok := HR.out.1
            rw [hok]
            go_wp2_with (go_at_call 20; refine (num_any _ _).mono ?_; rintro e w6 ⟨rfl, rfl⟩)
            go_roundw
            case rel => exact ⟨k + 1, by omega, by go_num, HB6.out.2.1⟩
            case measure => simp [intOf]; omega
      · obtain rfl : k = n := by omega
        have htm : tm = 0 := HT.out.2.2.2
        subst htm
        go_wp2
        go_ret
        exact ⟨rfl, HBX.out.2⟩

set_option maxRecDepth 100000 in
theorem lifted (os : Os) (started : os.Started) (H : Type) (enc : TypeId × Value → H) :
    ReturnsInHanded {} Try.checked os 6 .any (Rows.diskOldOrNewSpec.pre6 enc Try.prog Try.f6 Rows.diskOldOrNewRow.domain false) (Rows.diskOldOrNewSpec.post enc Try.prog Try.f6 false true false false) := by
  refine returnsInHanded_of_change_sized (C := Try.checked) own started (by kernel_rfl) Try.func6
    (ChangeSpec.witness6 (enc := enc) (C := Try.checked) false ⟨#[], #[.agg #[.slice none 0 0, .slice none 0 0], .slice none 0 0], []⟩ 8 (by kernel_rfl) (by kernel_rfl) (by kernel_rfl) (by kernel_rfl)) ?_
  intro W base args ds gs before hval0 hW hcnd hsz0 _
  have hval : ∀ (j : Nat) t v, Try.f6.params[j]? = some t → args[j]? = some v → Value.okWide Try.prog W .any base t v := hval0
  have hW' := hW
  obtain ⟨p, q, hA0, hV, rfl, hfz, hnd⟩ := hW
  have hA : DataW.TrodAll enc Try.prog W 0 (fun _ => true) true Try.f6.params.toList args.toList ds p := hA0
  have hsz : (DataW.weightsEach Try.prog (Try.f6.params.toList ++ Rows.diskOldOrNewSpec.plain.varTypes Try.prog) (ds ++ gs)).all (· ≤ reachBytes) = true := hsz0
  clear hsz0
  rw [Try.params6] at hA hval hsz
  obtain ⟨v0, vs0, d0, ds0, p0, q0, hargs, rfl, rfl, h0, r0⟩ := trodAll_cons hA
  obtain ⟨v1, vs1, d1, ds1, p1, q1, rfl, rfl, rfl, h1, r1⟩ := trodAll_cons r0
  obtain ⟨rfl, rfl, rfl⟩ := trodAll_nil r1
  obtain rfl : args = #[v0, v1] := by cases args; simp_all
  obtain ⟨rfl, rfl⟩ := trodVars_none hV
  obtain ⟨cs0, rfl, hc0⟩ := okWide_struct Try.underlying25 (hval 0 25 v0 rfl rfl)
  have k0 := h0
  have lt0 : ∀ x ∈ p0, x.block < W.heap.size := by obtain ⟨m, hm⟩ := k0; exact DataW.trod_lt m _ _ _ hm
  obtain ⟨l0, e0, f0, A0, rfl, y0, z0⟩ := disk_of (hc0.trans cells25) h0
  have F0 : Fits l0 := fits_of y0 z0 fun n hn => by have := List.all_eq_true.1 hsz _ (DataW.weights_mem_each (j := 0) rfl rfl n hn); simpa using this
  obtain ⟨a1, len1, cap1, rfl⟩ := okWide_slice Try.underlying27 (hval 1 27 v1 rfl rfl)
  have k1 := h1
  have lt1 : ∀ x ∈ p1, x.block < W.heap.size := by obtain ⟨m, hm⟩ := k1; exact DataW.trod_lt m _ _ _ hm
  obtain ⟨l1, A1⟩ := bools_of h1
  clear hA0 hval0
  refine (walk _ _ l0 l1 W A0 F0 A1).mono fun e W' ⟨he, bel⟩ => ?_
  subst he
  exact ⟨_, rfl, _, _, _, [], _, [], hW', trodAll_mk1 (shut_bool Try.underlying4 _), (trodAll_cons_mk (Below.trod laidOut (by kernel_rfl) (of_decide_eq_true (by kernel_rfl)) k0 bel lt0) (trodAll_cons_mk (Below.trod laidOut (by kernel_rfl) (of_decide_eq_true (by kernel_rfl)) k1 bel lt1) trodAll_mk0)), rfl, bel.frame _, fun h => by cases h⟩

theorem over : Rows.diskOldOrNewRow.holds Try.pinned (OpenSpec.ofChange Rows.diskOldOrNewSpec) :=
  OpenClaim.holds_of_wide 6 Try.f6 rfl rfl rfl rfl rfl rfl rfl ⟨rfl, rfl, rfl, rfl, rfl⟩ rfl rfl rfl rfl rfl (by kernel_rfl) Try.func6 (by kernel_rfl)
    (of_decide_eq_true (by kernel_rfl)) (by unfold Func.isWrapper; first | (rw [if_pos (by decide +kernel)]; kernel_rfl) | (rw [if_neg (by decide +kernel)]; exact ⟨rfl, rfl⟩))
    (fun os started H enc _ => lifted os started H enc)

end Go.Proofs.Ytkeaillmcfnnkaa.diskOldOrNew

namespace Go.Proofs.Ytkeaillmcfnnkaa
theorem diskOldOrNew_holds : Rows.DiskOldOrNewSaid := diskOldOrNew.over
#print axioms diskOldOrNew_holds
end Go.Proofs.Ytkeaillmcfnnkaa
