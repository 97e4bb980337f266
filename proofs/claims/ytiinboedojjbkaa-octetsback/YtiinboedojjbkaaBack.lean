/-
  OctetsBack, proved: for every uint64, int and octets (as great as the form reads them): the call returns true, and changes nothing that was in memory. No condition of its own.
-/
import Derived.Test.YtiinboedojjbkaaPutAll
import Derived.Test.YtiinboedojjbkaaBackMath
import Derived.Test.YtiinboedojjbkaaArg
namespace Go.Proofs.Ytiinboedojjbkaa.octetsBack
open Go.ChangeShapes Go.WideShapes Go.ChangeAt Go.RowKit
open Go.ChangeMaps (open_string shut_string)
set_option linter.unusedVariables false

theorem size_of (n : Nat) (m : Int) (h8 : need n ≤ 8) (hm0 : -9223372036854775808 ≤ m) (hm1 : m ≤ 9223372036854775807) : ∃ k : Nat, k ≤ 64 ∧ need n ≤ k ∧ wrap64 ((need n : Int) + (wrap64 (m.tmod 50 + 50)).tmod 50) = (k : Int) := by
  have ht : -50 < m.tmod 50 ∧ m.tmod 50 < 50 := by
    rw [Int.tmod_def]
    have := Int.tdiv_eq_ediv (a := m) (b := 50)
    rcases Int.lt_or_le m 0 with h | h
    · have e : m.tdiv 50 = -((-m) / 50) := by rw [← Int.tdiv_eq_ediv_of_nonneg (show 0 ≤ -m by omega), Int.neg_tdiv]; omega
      rw [e]; omega
    · rw [Int.tdiv_eq_ediv_of_nonneg h]; omega
  have e1 : wrap64 (m.tmod 50 + 50) = m.tmod 50 + 50 := by unfold wrap64; omega
  rw [e1, Int.tmod_eq_emod_of_nonneg (by omega)]
  refine ⟨need n + ((m.tmod 50 + 50) % 50).toNat, by omega, by omega, ?_⟩
  unfold wrap64
  omega

set_option maxHeartbeats 1000000 in
theorem walk (n : Nat) (m : Int) (v : Value) (l : List Int) (w : World) (h1 : n < 18446744073709551616) (hm0 : -9223372036854775808 ≤ m) (hm1 : m ≤ 9223372036854775807) (hv : Arg w v l) (hs : l.length ≤ 140737488355328) :
    Calls Try.prog 5 #[.int .u64 n, .int .i64 m, v] w fun e w' => e = .returned (.bool true) ∧ Below w.heap.size w w' := by
  have HV : Hid (Arg w v l) := hv
  have HR : Hid (∀ x ∈ l, 0 ≤ x ∧ x ≤ 255) := hv.bytes.2.2
  clear hv
  have hn8 := need_le8 n h1
  obtain ⟨k, hk1, hk2, hE⟩ := size_of n m hn8 hm0 hm1
  have HG : Hid (gval (oct n k) = n ∧ gerr (oct n k) = 0) := get_oct n k h1 hk2 (oct_range n k)
  have HU : Hid (uerr (hexs l) = 0 ∧ uout (hexs l) = l) := unhex_hexs l HR.out
  obtain ⟨S, hS⟩ : ∃ S, S = strOfNums (hexs l) := ⟨_, rfl⟩
  have hSz : S.size ≤ 281474976710656 := by rw [hS, strOfNums_size, hexs_length]; omega
  have HLS : Hid (lets S = hexs l) := by
    show _ = _
    rw [hS]; exact lets_str _ (fun x hx => by have := hexs_range l HR.out x hx; omega)
  have HH : Hid (∀ w, Arg w v l → Calls Try.prog 23 #[v] w fun e w' => e = .returned (.string S) ∧ Below w.heap.size w w') := fun w h => by
    rw [hS]; exact hex_any v l w h hs
  have HUN : Hid (∀ w, Calls Try.prog 19 #[.string S] w fun e w' => ∃ a cap, e = .returned (.tuple #[.slice a l.length cap, .int .i64 0]) ∧ w'.ownsRow w.heap.size 5 1 (.slice a l.length cap) l.length (l.map (Value.int .u8)) ∧ Below w.heap.size w w') := fun w => by
    have := unhex_all S w hSz
    rw [HLS.out, HU.out.1, HU.out.2] at this
    exact this
  have HE : Hid (wrap64 ((need n : Int) + (wrap64 (m.tmod 50 + 50)).tmod 50) = (k : Int)) := hE
  clear hE hS hSz
  obtain ⟨pe, hpe⟩ : ∃ pe, pe = perr n ((need n : Int) - 1) := ⟨_, rfl⟩
  have HP : Hid (∀ w, Calls Try.prog 10 #[.int .u64 n, .int .i64 ((need n : Int) - 1)] w fun e w' => ∃ a cap, e = .returned (.tuple #[.slice a (pout n ((need n : Int) - 1)).length cap, .int .i64 pe]) ∧ Below w.heap.size w w') := fun w => by
    rw [hpe]
    refine (put_all n ((need n : Int) - 1) w (by omega) (by omega)).mono ?_
    rintro e w' ⟨a, cap, rfl, _, hb⟩
    exact ⟨a, cap, rfl, hb⟩
  rcases (show (n = 0 ∧ pe = 4) ∨ (0 < n ∧ pe = 107) from by
    rcases Nat.eq_zero_or_pos n with h | h
    · left
      refine ⟨h, ?_⟩
      rw [hpe, h, need_zero]; rfl
    · right
      refine ⟨h, ?_⟩
      have hp := need_pos n (by omega)
      rw [hpe]
      unfold perr
      rw [if_neg (by omega), if_pos (by rw [Int.toNat_natCast]; omega)]) with ⟨hn0, rfl⟩ | ⟨hn0, rfl⟩
  all_goals
    have hnb : (((n : Int) == 0) = true ∧ ¬ (0 : Int) < (n : Int)) ∨ (((n : Int) == 0) = false ∧ (0 : Int) < (n : Int)) := by
      rcases Nat.eq_zero_or_pos n with h | h
      · left; exact ⟨by simp [h], by omega⟩
      · right; exact ⟨by simp; omega, by omega⟩
    rcases hnb with ⟨hnb, hnp⟩ | ⟨hnb, hnp⟩
    all_goals first | (exfalso; omega) | skip
    clear hpe hn0
    go_enter Try.func5, Try.ntmps5
    go_wp2_with (first
      | (go_at_call 18; refine (alive_any _).mono ?_; rintro e w1 ⟨rfl, hb1⟩)
      | (go_at_call 14; refine (need_any _ _ (by omega) (by omega)).mono ?_; rintro e w2 ⟨rfl, rfl⟩; simp only [Int.toNat_natCast]))
    rw [HE.out]
    refine (put_ok n k w1 h1 hk1 hk2).mono ?_
    rintro e w2 ⟨rfl, hown2, hb2⟩
    have HA2 : Hid (Arg w2 (.slice (some ⟨w1.heap.size, 0, none⟩) k k) (oct n k)) := Arg.own (base := w1.heap.size) (by rw [oct_length]; exact hown2) (oct_range n k)
    have hb02 := below_any hb1 hb2
    clear hown2
    go_wp2_with fail
    refine (get_any _ _ w2 HA2.out).mono ?_
    rintro e w3 ⟨rfl, rfl⟩
    rw [HG.out.1, HG.out.2]
    go_wp2_with fail
    refine (HH.out w2 (HV.out.below hb02)).mono ?_
    rintro e w4 ⟨rfl, hb4⟩
    have hb04 := below_any hb02 hb4
    go_wp2_with fail
    refine (HUN.out w4).mono ?_
    rintro e w5 ⟨a5, c5, rfl, hown5, hb5⟩
    have HB5 : Hid (Bytes w5 (.slice a5 l.length c5) l) := Bytes.own hown5 HR.out
    have hb05 := below_any hb04 hb5
    clear hown5
    go_wp2_with (go_at_call 14; refine (need_any _ _ (by omega) (by omega)).mono ?_; rintro e w2 ⟨rfl, rfl⟩; simp only [Int.toNat_natCast])
    refine (HP.out w5).mono ?_
    rintro e w6 ⟨a6, c6, rfl, hb6⟩
    have hb06 := below_any hb05 hb6
    have HX : Hid (Bytes w6 (.slice a5 l.length c5) l) := HB5.out.below hb6
    have HY : Hid (Bytes w6 v l) := (HV.out.below hb06).bytes
    go_wp2_with (go_at_call 17; refine (num_any _ _).mono ?_; rintro e w3 ⟨rfl, rfl⟩)
    refine (same_true _ _ l w6 HX.out HY.out).mono ?_
    rintro e w7 ⟨rfl, q, rfl⟩
    go_wp2_with (go_at_call 17; refine (num_any _ _).mono ?_; rintro e w3 ⟨rfl, rfl⟩)
    go_ret
    exact ⟨rfl, below_drewN hb06 q⟩

set_option maxRecDepth 100000 in
theorem lifted (os : Os) (started : os.Started) (H : Type) (enc : TypeId × Value → H) :
    ReturnsInHanded {} Try.checked os 5 .any (Rows.octetsBackSpec.pre6 enc Try.prog Try.f5 Rows.octetsBackRow.domain false) (Rows.octetsBackSpec.post enc Try.prog Try.f5 false true false false) := by
  refine returnsInHanded_of_change_sized (C := Try.checked) own started (by kernel_rfl) Try.func5
    (ChangeSpec.witness6 (enc := enc) (C := Try.checked) false ⟨#[], #[.int .u64 0, .int .i64 0, .slice none 0 0], []⟩ 8 (by kernel_rfl) (by kernel_rfl) (by kernel_rfl) (by kernel_rfl)) ?_
  intro W base args ds gs before hval0 hW hcnd hsz0 _
  have hval : ∀ (j : Nat) t v, Try.f5.params[j]? = some t → args[j]? = some v → Value.okWide Try.prog W .any base t v := hval0
  have hW' := hW
  obtain ⟨p, q, hA0, hV, rfl, hfz, hnd⟩ := hW
  have hA : DataW.TrodAll enc Try.prog W 0 (fun _ => true) true Try.f5.params.toList args.toList ds p := hA0
  have hsz : (DataW.weightsEach Try.prog (Try.f5.params.toList ++ Rows.octetsBackSpec.plain.varTypes Try.prog) (ds ++ gs)).all (· ≤ reachBytes) = true := hsz0
  clear hsz0
  rw [Try.params5] at hA hval hsz
  obtain ⟨v0, vs0, d0, ds0, p0, q0, hargs, rfl, rfl, h0, r0⟩ := trodAll_cons hA
  obtain ⟨v1, vs1, d1, ds1, p1, q1, rfl, rfl, rfl, h1, r1⟩ := trodAll_cons r0
  obtain ⟨v2, vs2, d2, ds2, p2, q2, rfl, rfl, rfl, h2, r2⟩ := trodAll_cons r1
  obtain ⟨rfl, rfl, rfl⟩ := trodAll_nil r2
  obtain rfl : args = #[v0, v1, v2] := by cases args; simp_all
  obtain ⟨rfl, rfl⟩ := trodVars_none hV
  obtain ⟨a0, rfl, rfl, rfl, w0⟩ := open_int Try.underlying22 (hval 0 22 v0 rfl rfl) h0
  obtain ⟨a1, rfl, rfl, rfl, w1⟩ := open_int Try.underlying3 (hval 1 3 v1 rfl rfl) h1
  obtain ⟨a2, len2, cap2, rfl⟩ := okWide_slice Try.underlying23 (hval 2 23 v2 rfl rfl)
  have k2 := h2
  have lt2 : ∀ x ∈ p2, x.block < W.heap.size := by obtain ⟨m, hm⟩ := k2; exact DataW.trod_lt m _ _ _ hm
  obtain ⟨l2, A2, D2⟩ := arg_of h2
  have s2 := arg_len hsz (j := 2) rfl rfl D2
  have b0 := bounds_u64 w0
  have b1 := bounds_i64 w1
  clear hA0 hval0
  obtain ⟨n0, rfl⟩ := Int.eq_ofNat_of_zero_le b0.1
  refine (walk n0 a1 _ l2 W (by omega) b1.1 b1.2 A2 (by omega)).mono fun e W' ⟨he, bel⟩ => ?_
  subst he
  exact ⟨_, rfl, _, _, _, [], _, [], hW', trodAll_mk1 (shut_bool Try.underlying4 _), (trodAll_cons_mk (shut_int Try.underlying22 w0) (trodAll_cons_mk (shut_int Try.underlying3 w1) (trodAll_cons_mk (Below.trod laidOut (by kernel_rfl) (of_decide_eq_true (by kernel_rfl)) k2 bel lt2) trodAll_mk0))), rfl, bel.frame _, fun h => by cases h⟩

theorem over : Rows.octetsBackRow.holds Try.pinned (OpenSpec.ofChange Rows.octetsBackSpec) :=
  OpenClaim.holds_of_wide 5 Try.f5 rfl rfl rfl rfl rfl rfl rfl ⟨rfl, rfl, rfl, rfl, rfl⟩ rfl rfl rfl rfl rfl (by kernel_rfl) Try.func5 (by kernel_rfl)
    (of_decide_eq_true (by kernel_rfl)) (by unfold Func.isWrapper; first | (rw [if_pos (by decide +kernel)]; kernel_rfl) | (rw [if_neg (by decide +kernel)]; exact ⟨rfl, rfl⟩))
    (fun os started H enc _ => lifted os started H enc)

end Go.Proofs.Ytiinboedojjbkaa.octetsBack

namespace Go.Proofs.Ytiinboedojjbkaa
theorem octetsBack_holds : Rows.OctetsBackSaid := octetsBack.over
#print axioms octetsBack_holds
end Go.Proofs.Ytiinboedojjbkaa
