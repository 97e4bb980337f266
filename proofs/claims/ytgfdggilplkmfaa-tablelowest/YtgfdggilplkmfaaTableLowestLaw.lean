/-
  TableLowest, proved: for every table and every number (as great as the form reads them): the call returns true, and changes nothing that was in memory. No condition of its own.
-/
import Derived.Test.YtgfdggilplkmfaaROps
import Derived.Test.YtgfdggilplkmfaaAlive
namespace Go.Proofs.Ytgfdggilplkmfaa.tableLowest
open Go.ChangeShapes Go.WideShapes Go.ChangeAt Go.RowKit
set_option linter.unusedVariables false

set_option maxRecDepth 100000 in
set_option maxHeartbeats 8000000 in
theorem walk (n0 : Nat) (v : Value) (l : List Sl) (q x : Int) (hq : I64 q) (w : World) (h : ArgE n0 w v l) (hf : l.length * 16 ≤ 140737488351232) :
    Calls Try.prog 5 #[v, .int .i64 q, .int .i64 x] w fun e w' => e = .returned (.bool true) ∧ Below w.heap.size w w' := by
  have HL : Hid (ArgE n0 w v l ∧ I64 q ∧ l.length * 16 ≤ 140737488351232) := ⟨h, hq, hf⟩
  have HC := alive_any w
  obtain ⟨a, c, rfl, _, hm, _⟩ := h.shape
  unfold maxLen at hm
  have hl1 := run_len Try.underlying22 a l.length c
  obtain ⟨n, hn⟩ : ∃ n, n = l.length := ⟨_, rfl⟩
  rw [← hn] at HL hl1 hm ⊢
  have HN : Hid (n = l.length) := hn
  clear h hf hq hn
  go_enter Try.func5, Try.ntmps5
  go_wp2_with fail
  refine HC.mono ?_
  rintro e w1 ⟨rfl, hb1⟩
  have H1 : Hid (Below w.heap.size w w1) := hb1
  clear hb1 HC
  have HC := of_any n0 (.slice a n c) l w1 (HL.out.1.below H1.out) (by have := HL.out.2.2; have := HN.out; omega)
  go_wp2_with fail
  refine HC.mono ?_
  rintro e w2 ⟨⟨v2, rfl, hO2⟩, hb2⟩
  have H2 : Hid (Below w.heap.size w w2) := below_any H1.out hb2
  have HA2 : Hid (ArgE w1.heap.size w2 v2 l) := hO2.arg
  clear hb2 HC hO2
  have HC := alloc_any _ v2 l q x HL.out.2.1 w2 HA2.out
  have HE : Hid (aE l q x ≠ 0 → aP l q x = 0) := fun h => if_neg h
  have HP : Hid (aE l q x = 0 → aP l q x = freeAt l) := fun h => if_pos h
  obtain ⟨ae, hae⟩ : ∃ y, y = aE l q x := ⟨_, rfl⟩
  obtain ⟨ap, hap⟩ : ∃ y, y = aP l q x := ⟨_, rfl⟩
  have HF : Hid (ae = 0 → 0 < cnt l 0) := fun h => by
    rw [h] at hae
    unfold aE at hae
    repeat' split at hae
    all_goals first | omega | skip
  rw [← hae] at HC HE HP
  rw [← hap] at HC HE HP
  clear hae hap
  go_wp2_with fail
  refine HC.mono ?_
  rintro e w3 ⟨⟨v3, rfl, -⟩, hb3⟩
  have H3 : Hid (Below w.heap.size w w3) := below_any H2.out hb3
  clear hb3 HC
  by_cases h0 : ae = 0
  case neg =>
    obtain rfl : ap = 0 := HE.out h0
    have h0b : (ae == 0) = false := by simpa using h0
    go_wp2_with (go_at_call 19; refine (num_any _ _).mono ?_; rintro e wn ⟨rfl, rfl⟩)
    go_ret
    exact ⟨rfl, H3.out⟩
  subst h0
  have hpos := HF.out rfl
  obtain ⟨p, hp, hz⟩ := freeAt_is hpos
  have hlt := freeAt_lt hpos
  obtain ⟨f, hf⟩ : ∃ f, f = freeAt l := ⟨_, rfl⟩
  obtain rfl : ap = f := by rw [hf]; exact HP.out rfl
  have HFF : Hid (l[f]? = some p ∧ p.1 = 0 ∧ ∀ i r, i < f → l[i]? = some r → r.1 ≠ 0) := ⟨by rw [hf]; exact hp, hz, fun i r hi hr => freeAt_first (by rw [← hf]; exact hi) hr⟩
  have hfn : f < n := by rw [HN.out, hf]; exact hlt
  have hfi : (f : Int) < (n : Int) := by omega
  clear hpos hp hz hlt hf HE HP HF
  go_wp2_with (go_at_call 19; refine (num_any _ _).mono ?_; rintro e wn ⟨rfl, rfl⟩)
  go_loopw [10] (fun i wr => ∃ k : Nat, k ≤ f ∧ i = .int .i64 k ∧ Hid (Below w.heap.size w wr)) (fun i _ => f - (intOf i).toNat)
  case atStart => exact ⟨0, Nat.zero_le _, rfl, H3⟩
  case round =>
    obtain ⟨k, hk, rfl, HB⟩ := hrel
    by_cases hlt : k < f
    · obtain ⟨r, hr⟩ := get_lt (l := l) (k := k) (by rw [← HN.out]; omega)
      obtain ⟨b, o, hix, -, c0, c1⟩ := (HL.out.1.below HB.out).atR k r hr
      have hne := HFF.out.2.2 k r hlt hr
      have hki : (k : Int) < (f : Int) := by omega
      have hkn : (k : Int) < (n : Int) := by omega
      obtain ⟨r1, r2⟩ := r
      simp only at c0 c1 hne
      have hneb : (r1 == 0) = false := by simpa using hne
      clear hr
      go_wp2
      go_roundw
      case rel => exact ⟨k + 1, by omega, by go_num, HB⟩
      case measure => simp [intOf]; omega
    · obtain rfl : k = f := by omega
      obtain ⟨b, o, hix, -, c0, c1⟩ := (HL.out.1.below HB.out).atR k p HFF.out.1
      rw [HFF.out.2.1] at c0
      go_wp2
      go_ret
      exact ⟨rfl, HB.out⟩

set_option maxRecDepth 100000 in
theorem lifted (os : Os) (started : os.Started) (H : Type) (enc : TypeId × Value → H) :
    ReturnsInHanded {} Try.checked os 5 .any (Rows.tableLowestSpec.pre6 enc Try.prog Try.f5 Rows.tableLowestRow.domain false) (Rows.tableLowestSpec.post enc Try.prog Try.f5 false true false false) := by
  refine returnsInHanded_of_change_sized (C := Try.checked) own started (by kernel_rfl) Try.func5
    (ChangeSpec.witness6 (enc := enc) (C := Try.checked) false ⟨#[], #[.slice none 0 0, .int .i64 0, .int .i64 0], []⟩ 8 (by kernel_rfl) (by kernel_rfl) (by kernel_rfl) (by kernel_rfl)) ?_
  intro W base args ds gs before hval0 hW hcnd hsz0 _
  have hval : ∀ (j : Nat) t v, Try.f5.params[j]? = some t → args[j]? = some v → Value.okWide Try.prog W .any base t v := hval0
  have hW' := hW
  obtain ⟨p, q, hA0, hV, rfl, hfz, hnd⟩ := hW
  have hA : DataW.TrodAll enc Try.prog W 0 (fun _ => true) true Try.f5.params.toList args.toList ds p := hA0
  have hsz : (DataW.weightsEach Try.prog (Try.f5.params.toList ++ Rows.tableLowestSpec.plain.varTypes Try.prog) (ds ++ gs)).all (· ≤ reachBytes) = true := hsz0
  clear hsz0
  rw [Try.params5] at hA hval hsz
  obtain ⟨v0, vs0, d0, ds0, p0, q0, hargs, rfl, rfl, h0, r0⟩ := trodAll_cons hA
  obtain ⟨v1, vs1, d1, ds1, p1, q1, rfl, rfl, rfl, h1, r1⟩ := trodAll_cons r0
  obtain ⟨v2, vs2, d2, ds2, p2, q2, rfl, rfl, rfl, h2, r2⟩ := trodAll_cons r1
  obtain ⟨rfl, rfl, rfl⟩ := trodAll_nil r2
  obtain rfl : args = #[v0, v1, v2] := by cases args; simp_all
  obtain ⟨rfl, rfl⟩ := trodVars_none hV
  obtain ⟨x0, len0, cap0, rfl⟩ := okWide_slice Try.underlying22 (hval 0 22 v0 rfl rfl)
  have k0 := h0
  have lt0 : ∀ x ∈ p0, x.block < W.heap.size := by obtain ⟨m, hm⟩ := k0; exact DataW.trod_lt m _ _ _ hm
  obtain ⟨m0, hm0⟩ := h0
  obtain ⟨s0, A0, F0'⟩ := slsR.reads hm0
  have F0 := F0' fun n hn => by have := List.all_eq_true.1 hsz _ (DataW.weights_mem_each (j := 0) rfl rfl n hn); simpa using this
  obtain ⟨a1, rfl, rfl, rfl, w1⟩ := open_int Try.underlying3 (hval 1 3 v1 rfl rfl) h1
  have b1 := bounds_i64 w1
  obtain ⟨a2, rfl, rfl, rfl, w2⟩ := open_int Try.underlying3 (hval 2 3 v2 rfl rfl) h2
  have b2 := bounds_i64 w2
  clear hA0 hval0
  refine (walk 0 _ s0 a1 a2 b1 W (args_of A0) (fits_of F0)).mono fun e W' ⟨he, bel⟩ => ?_
  subst he
  exact ⟨_, rfl, _, _, _, [], _, [], hW', trodAll_mk1 (shut_bool Try.underlying4 _), (trodAll_cons_mk (Below.trod laidOut (by kernel_rfl) (of_decide_eq_true (by kernel_rfl)) k0 bel lt0) (trodAll_cons_mk (shut_int Try.underlying3 w1) (trodAll_cons_mk (shut_int Try.underlying3 w2) trodAll_mk0))), rfl, bel.frame _, fun h => by cases h⟩

theorem over : Rows.tableLowestRow.holds Try.pinned (OpenSpec.ofChange Rows.tableLowestSpec) :=
  OpenClaim.holds_of_wide 5 Try.f5 rfl rfl rfl rfl rfl rfl rfl ⟨rfl, rfl, rfl, rfl, rfl⟩ rfl rfl rfl rfl rfl (by kernel_rfl) Try.func5 (by kernel_rfl)
    (of_decide_eq_true (by kernel_rfl)) (by unfold Func.isWrapper; first | (rw [if_pos (by decide +kernel)]; kernel_rfl) | (rw [if_neg (by decide +kernel)]; exact ⟨rfl, rfl⟩))
    (fun os started H enc _ => lifted os started H enc)

end Go.Proofs.Ytgfdggilplkmfaa.tableLowest

namespace Go.Proofs.Ytgfdggilplkmfaa
theorem tableLowest_holds : Rows.TableLowestSaid := tableLowest.over
#print axioms tableLowest_holds
end Go.Proofs.Ytgfdggilplkmfaa
