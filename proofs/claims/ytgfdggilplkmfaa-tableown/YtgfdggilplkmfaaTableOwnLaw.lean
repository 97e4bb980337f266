/-
  TableOwn, proved: for every table and every number (as great as the form reads them): the call returns true, and changes nothing that was in memory. No condition of its own.
-/
import Derived.Test.YtgfdggilplkmfaaROps
import Derived.Test.YtgfdggilplkmfaaAlive
namespace Go.Proofs.Ytgfdggilplkmfaa.tableOwn
open Go.ChangeShapes Go.WideShapes Go.ChangeAt Go.RowKit
set_option linter.unusedVariables false

set_option maxRecDepth 100000 in
set_option maxHeartbeats 8000000 in
theorem walk (n0 : Nat) (v : Value) (l : List Sl) (q s : Int) (hq : I64 q) (w : World) (h : ArgE n0 w v l) (hf : l.length * 16 ≤ 140737488351232) :
    Calls Try.prog 6 #[v, .int .i64 q, .int .i64 s] w fun e w' => e = .returned (.bool true) ∧ Below w.heap.size w w' := by
  have HL : Hid (ArgE n0 w v l ∧ I64 q ∧ l.length * 16 ≤ 140737488351232) := ⟨h, hq, hf⟩
  have HC := alive_any w
  clear h hf hq
  go_enter Try.func6, Try.ntmps6
  go_wp2_with fail
  refine HC.mono ?_
  rintro e w0 ⟨rfl, hb0⟩
  have H0 : Hid (Below w.heap.size w w0) := hb0
  clear hb0 HC
  have HC := of_any n0 v l w0 (HL.out.1.below H0.out) HL.out.2.2
  go_wp2_with fail
  refine HC.mono ?_
  rintro e w1 ⟨⟨v1, rfl, hO1⟩, hb1⟩
  have H1 : Hid (Below w.heap.size w w1) := below_any H0.out hb1
  have HO : Hid (OwnE 57 w.heap.size w1 v1 l) := hO1.weaken H0.out.size
  clear hb1 HC hO1
  have HC := alloc_any _ v1 l q 1 HL.out.2.1 w1 HO.out.arg
  go_wp2_with fail
  refine HC.mono ?_
  rintro e w2 ⟨⟨v2, rfl, hA2⟩, hb2⟩
  have H2 : Hid (Below w.heap.size w w2) := below_any H1.out hb2
  have K2 : Hid (Below w1.heap.size w1 w2) := hb2
  have A2 : Hid (ArgE w1.heap.size w2 v2 (aV l q 1)) := hA2.arg
  clear HC hb2 hA2
  have HC := ralloc_any _ v l q 1 w2 (HL.out.1.below H2.out)
  go_wp2_with fail
  refine HC.mono ?_
  rintro e w3 ⟨⟨v3, rfl, hA3⟩, hb3⟩
  have H3 : Hid (Below w.heap.size w w3) := below_any H2.out hb3
  have K3 : Hid (Below w1.heap.size w1 w3) := below_any K2.out hb3
  replace A2 : Hid (ArgE w1.heap.size w3 v2 (aV l q 1)) := A2.out.below hb3
  have A3 : Hid (ArgE w2.heap.size w3 v3 (aV l q 1)) := hA3.arg
  clear HC hb3 hA3
  have HC := kill_any _ v1 l s 0 w3 (HO.out.below K3.out).arg
  go_wp2_with fail
  refine HC.mono ?_
  rintro e w4 ⟨⟨v4, rfl, hA4⟩, hb4⟩
  have H4 : Hid (Below w.heap.size w w4) := below_any H3.out hb4
  have K4 : Hid (Below w1.heap.size w1 w4) := below_any K3.out hb4
  replace A2 : Hid (ArgE w1.heap.size w4 v2 (aV l q 1)) := A2.out.below hb4
  replace A3 : Hid (ArgE w2.heap.size w4 v3 (aV l q 1)) := A3.out.below hb4
  have A4 : Hid (ArgE w3.heap.size w4 v4 (kV l s 0)) := hA4.arg
  clear HC hb4 hA4
  have HC := rkill_any _ v l s 0 w4 (HL.out.1.below H4.out)
  go_wp2_with fail
  refine HC.mono ?_
  rintro e w5 ⟨⟨v5, rfl, hA5⟩, hb5⟩
  have H5 : Hid (Below w.heap.size w w5) := below_any H4.out hb5
  have K5 : Hid (Below w1.heap.size w1 w5) := below_any K4.out hb5
  replace A2 : Hid (ArgE w1.heap.size w5 v2 (aV l q 1)) := A2.out.below hb5
  replace A3 : Hid (ArgE w2.heap.size w5 v3 (aV l q 1)) := A3.out.below hb5
  replace A4 : Hid (ArgE w3.heap.size w5 v4 (kV l s 0)) := A4.out.below hb5
  have A5 : Hid (ArgE w4.heap.size w5 v5 (kV l s 0)) := hA5.arg
  clear HC hb5 hA5
  have HALL : Hid (ArgE w1.heap.size w5 v2 (aV l q 1) ∧ ArgE w1.heap.size w5 v3 (aV l q 1) ∧ ArgE w1.heap.size w5 v4 (kV l s 0) ∧ ArgE w1.heap.size w5 v5 (kV l s 0)) :=
    ⟨A2.out, A3.out.weaken K2.out.size, A4.out.weaken K3.out.size, A5.out.weaken K4.out.size⟩
  have HO5 : Hid (OwnE 57 w.heap.size w5 v1 l) := HO.out.below K5.out
  obtain ⟨a, c, rfl⟩ := HO.out.shape
  have HM : Hid (l.length ≤ 140737488351232) := by have := HL.out.2.2; show _ ≤ _; omega
  have hl1 := run_len Try.underlying23 a l.length c
  obtain ⟨n, hn⟩ : ∃ n, n = l.length := ⟨_, rfl⟩
  have hm : n ≤ 140737488351232 := by rw [hn]; exact HM.out
  rw [← hn] at hl1 HO HO5 ⊢
  have HN : Hid (n = l.length) := hn
  have HK : Hid (Below w1.heap.size w1 w5) := K5.out
  have HH5 : Hid (Below w.heap.size w w5) := H5.out
  clear A2 A3 A4 A5 hn HM H0 H1 H2 H3 H4 H5 K2 K3 K4 K5
  go_wp2
  go_loopw [18] (fun i wr => ∃ k : Nat, k ≤ n ∧ i = .int .i64 k ∧ Hid (∃ l' : List Sl, l'.length = l.length ∧ OwnE 57 w.heap.size wr (.slice a n c) l' ∧ Below w.heap.size w wr ∧ Same w1.heap.size w5 wr ∧ w5.heap.size ≤ wr.heap.size)) (fun i _ => n - (intOf i).toNat)
  case atStart => exact ⟨0, Nat.zero_le _, rfl, l, rfl, HO5.out, HH5.out, (fun _ _ _ => rfl), Nat.le_refl _⟩
  case round =>
    obtain ⟨k, hk, rfl, HB⟩ := hrel
    by_cases hlt : k < n
    · obtain ⟨l', hll, hO, hb, hs, hsz⟩ := HB.out
      obtain ⟨p, hp⟩ := get_lt (l := l') (k := k) (by rw [hll, ← HN.out]; exact hlt)
      obtain ⟨g, o, cap, hv, hg, -, hix, hput⟩ := own_at Try.underlying23 Try.info57 hO k p hp
      obtain ⟨d0, d1, f0, f1, hst, -, -⟩ := hput wr (Below.refl _ _)
      have hgw : g < w1.heap.size := by
        obtain ⟨rfl, -⟩ := Value.slice.inj hv
        exact (HO.out.1.lt g rfl).2
      have HB2 : Hid (∃ l' : List Sl, l'.length = l.length ∧ OwnE 57 w.heap.size ((wr.setCell ⟨g, o, none⟩ (.int .i64 (-1))).setCell ⟨g, o + 1, none⟩ (.int .i64 0)) (.slice a n c) l' ∧ Below w.heap.size w ((wr.setCell ⟨g, o, none⟩ (.int .i64 (-1))).setCell ⟨g, o + 1, none⟩ (.int .i64 0)) ∧ Same w1.heap.size w5 ((wr.setCell ⟨g, o, none⟩ (.int .i64 (-1))).setCell ⟨g, o + 1, none⟩ (.int .i64 0)) ∧ w5.heap.size ≤ ((wr.setCell ⟨g, o, none⟩ (.int .i64 (-1))).setCell ⟨g, o + 1, none⟩ (.int .i64 0)).heap.size) := by
        refine ⟨l'.set k (-1, 0), by rw [List.length_set]; exact hll, hst (-1) 0 ⟨⟨by simp, by simp⟩, ⟨by simp, by simp⟩⟩, (hb.setCell (p := ⟨g, o, none⟩) hg _).setCell (p := ⟨g, o + 1, none⟩) hg _, ?_, by simp [World.setCell]; exact hsz⟩
        exact Same.trans hs hsz (Same.trans (.set hgw) (by simp [World.setCell]) (.set hgw))
      have hki : (k : Int) < (n : Int) := by omega
      obtain ⟨p1, p2⟩ := p
      simp only at d0 d1
      clear hll hO hb hs hsz hp hv hg hput hst hgw HB
      go_wp2
      go_roundw
      case rel => exact ⟨k + 1, by omega, by go_num, HB2⟩
      case measure => simp [intOf]; omega
    · obtain rfl : k = n := by omega
      obtain ⟨l', -, -, hb, hs, hsz⟩ := HB.out
      have HE : Hid (Below w.heap.size w wr ∧ ArgE w1.heap.size wr v2 (aV l q 1) ∧ ArgE w1.heap.size wr v3 (aV l q 1) ∧ ArgE w1.heap.size wr v4 (kV l s 0) ∧ ArgE w1.heap.size wr v5 (kV l s 0)) :=
        ⟨hb, HALL.out.1.keep hs, HALL.out.2.1.keep hs, HALL.out.2.2.1.keep hs, HALL.out.2.2.2.keep hs⟩
      have HC := same_any _ _ v2 v3 _ _ wr HE.out.2.1 HE.out.2.2.1
      rw [decide_eq_true rfl] at HC
      clear hb hs hsz HB
      go_wp2_with (go_at_call 19; refine (num_any _ _).mono ?_; rintro e wn ⟨rfl, rfl⟩)
      refine HC.mono ?_
      rintro e w6 ⟨rfl, hb6⟩
      have H6 : Hid (Below w.heap.size w w6) := below_any HE.out.1 hb6
      clear HC
      have HC := same_any _ _ v4 v5 _ _ w6 (HE.out.2.2.2.1.below hb6) (HE.out.2.2.2.2.below hb6)
      rw [decide_eq_true rfl] at HC
      clear hb6
      go_wp2_with (go_at_call 19; refine (num_any _ _).mono ?_; rintro e wn ⟨rfl, rfl⟩)
      refine HC.mono ?_
      rintro e w7 ⟨rfl, hb7⟩
      have H7 : Hid (Below w.heap.size w w7) := below_any H6.out hb7
      clear HC hb7
      go_wp2_with (go_at_call 19; refine (num_any _ _).mono ?_; rintro e wn ⟨rfl, rfl⟩)
      go_ret
      exact ⟨rfl, H7.out⟩

set_option maxRecDepth 100000 in
theorem lifted (os : Os) (started : os.Started) (H : Type) (enc : TypeId × Value → H) :
    ReturnsInHanded {} Try.checked os 6 .any (Rows.tableOwnSpec.pre6 enc Try.prog Try.f6 Rows.tableOwnRow.domain false) (Rows.tableOwnSpec.post enc Try.prog Try.f6 false true false false) := by
  refine returnsInHanded_of_change_sized (C := Try.checked) own started (by kernel_rfl) Try.func6
    (ChangeSpec.witness6 (enc := enc) (C := Try.checked) false ⟨#[], #[.slice none 0 0, .int .i64 0, .int .i64 0], []⟩ 8 (by kernel_rfl) (by kernel_rfl) (by kernel_rfl) (by kernel_rfl)) ?_
  intro W base args ds gs before hval0 hW hcnd hsz0 _
  have hval : ∀ (j : Nat) t v, Try.f6.params[j]? = some t → args[j]? = some v → Value.okWide Try.prog W .any base t v := hval0
  have hW' := hW
  obtain ⟨p, q, hA0, hV, rfl, hfz, hnd⟩ := hW
  have hA : DataW.TrodAll enc Try.prog W 0 (fun _ => true) true Try.f6.params.toList args.toList ds p := hA0
  have hsz : (DataW.weightsEach Try.prog (Try.f6.params.toList ++ Rows.tableOwnSpec.plain.varTypes Try.prog) (ds ++ gs)).all (· ≤ reachBytes) = true := hsz0
  clear hsz0
  rw [Try.params6] at hA hval hsz
  obtain ⟨v0, vs0, d0, ds0, p0, q0, hargs, rfl, rfl, h0, r0⟩ := trodAll_cons hA
  obtain ⟨v1, vs1, d1, ds1, p1, q1, rfl, rfl, rfl, h1, r1⟩ := trodAll_cons r0
  obtain ⟨v2, vs2, d2, ds2, p2, q2, rfl, rfl, rfl, h2, r2⟩ := trodAll_cons r1
  obtain ⟨rfl, rfl, rfl⟩ := trodAll_nil r2
  obtain rfl : args = #[v0, v1, v2] := by cases args; simp_all
  obtain ⟨rfl, rfl⟩ := trodVars_none hV
  obtain ⟨x0, len0, cap0, rfl⟩ := okWide_slice Try.underlying22 (hval 0 22 v0 rfl rfl)
  have k0 := h0
  have lt0 : ∀ x ∈ p0, x.block < W.heap.size := by obtain ⟨m, hm⟩ := k0; exact DataW.trod_lt m _ _ _ hm
  obtain ⟨m0, hm0⟩ := h0
  obtain ⟨s0, A0, F0'⟩ := slsR.reads hm0
  have F0 := F0' fun n hn => by have := List.all_eq_true.1 hsz _ (DataW.weights_mem_each (j := 0) rfl rfl n hn); simpa using this
  obtain ⟨a1, rfl, rfl, rfl, w1⟩ := open_int Try.underlying3 (hval 1 3 v1 rfl rfl) h1
  have b1 := bounds_i64 w1
  obtain ⟨a2, rfl, rfl, rfl, w2⟩ := open_int Try.underlying3 (hval 2 3 v2 rfl rfl) h2
  have b2 := bounds_i64 w2
  clear hA0 hval0
  refine (walk 0 _ s0 a1 a2 b1 W (args_of A0) (fits_of F0)).mono fun e W' ⟨he, bel⟩ => ?_
  subst he
  exact ⟨_, rfl, _, _, _, [], _, [], hW', trodAll_mk1 (shut_bool Try.underlying4 _), (trodAll_cons_mk (Below.trod laidOut (by kernel_rfl) (of_decide_eq_true (by kernel_rfl)) k0 bel lt0) (trodAll_cons_mk (shut_int Try.underlying3 w1) (trodAll_cons_mk (shut_int Try.underlying3 w2) trodAll_mk0))), rfl, bel.frame _, fun h => by cases h⟩

theorem over : Rows.tableOwnRow.holds Try.pinned (OpenSpec.ofChange Rows.tableOwnSpec) :=
  OpenClaim.holds_of_wide 6 Try.f6 rfl rfl rfl rfl rfl rfl rfl ⟨rfl, rfl, rfl, rfl, rfl⟩ rfl rfl rfl rfl rfl (by kernel_rfl) Try.func6 (by kernel_rfl)
    (of_decide_eq_true (by kernel_rfl)) (by unfold Func.isWrapper; first | (rw [if_pos (by decide +kernel)]; kernel_rfl) | (rw [if_neg (by decide +kernel)]; exact ⟨rfl, rfl⟩))
    (fun os started H enc _ => lifted os started H enc)

end Go.Proofs.Ytgfdggilplkmfaa.tableOwn

namespace Go.Proofs.Ytgfdggilplkmfaa
theorem tableOwn_holds : Rows.TableOwnSaid := tableOwn.over
#print axioms tableOwn_holds
end Go.Proofs.Ytgfdggilplkmfaa
