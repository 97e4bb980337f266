/-
  SegmentOwners, proved: for every segment (as great as the form reads it): the call returns true, and changes nothing that was in memory. No condition of its own.
-/
import Derived.Test.YtmjgamokddedkaaAlive
import Derived.Test.YtmjgamokddedkaaOwners
import Derived.Test.YtmjgamokddedkaaOfL
import Derived.Test.YtmjgamokddedkaaFrame
namespace Go.Proofs.Ytmjgamokddedkaa.segmentOwners
open Go.ChangeShapes Go.WideShapes Go.ChangeAt Go.RowKit
open O (nv oct)
set_option linter.unusedVariables false

theorem ints_at {base : Nat} {w : World} {v : Value} {zs : List Int} (h : OwnI base w v zs) (i : Nat) (x : Int) (hx : zs[i]? = some x) :
    ∃ b o, (∀ W, (Instr.indexAt 40 v (.int .i64 i)).run Try.prog W = .ok (.pointer (some ⟨b, o, none⟩)) W) ∧ w.cell? ⟨b, o, none⟩ = some (.int .i64 x) := by
  obtain ⟨i3, hi3, _, hz31, _⟩ := info_parts Try.info3
  obtain ⟨b, o, hix, _, hcell⟩ := (Cells.own h).index (by decide) Try.underlying40 hi3 hz31 i (List.getElem?_eq_some_iff.1 hx).1
  exact ⟨b, o, hix, hcell 0 _ (by simp [List.getElem?_map, hx])⟩
theorem snoc_mem {α : Type} [DecidableEq α] {l : List α} {k : Nat} {y : α} (h : l[k]? = some y) (x : α) : decide (x ∈ l.take (k + 1)) = (decide (x ∈ l.take k) || decide (y = x)) := by
  rw [take_snoc h]
  simp [eq_comm]

set_option maxRecDepth 100000 in
set_option maxHeartbeats 8000000 in
theorem walk (n0 : Nat) (us : List Value) (s : Sg) (w : World) (h : sgR.lies n0 w us s) (hf : Fits s) :
    Calls Try.prog 6 #[.agg us.toArray] w fun e w' => e = .returned (.bool true) ∧ Below w.heap.size w w' := by
  obtain ⟨ra, rc, rfl, hRL, hRi, hRm⟩ := sg_viewR h
  obtain ⟨W, hW⟩ : ∃ W, W = w.alloc (.cells #[.int .i64 s.1, .slice ra s.2.length rc] 24) := ⟨_, rfl⟩
  have HB0 : Hid (Below w.heap.size w W) := by rw [hW]; exact (Below.refl _ _).alloc (Nat.le_refl _) _
  have HX0 : Hid (Box W w.heap.size 24 #[.int .i64 s.1, .slice ra s.2.length rc]) := by rw [hW]; exact Box.new _ _ _
  have HR : Hid (sgR.lies n0 w [.int .i64 s.1, .slice ra s.2.length rc] s ∧ Fits s) := ⟨h, hf⟩
  have HC := alive_any W
  obtain ⟨sn, hsn⟩ : ∃ z, z = s.2.length := ⟨_, rfl⟩
  obtain ⟨sq1, hsq1⟩ : ∃ z, z = s.1 := ⟨_, rfl⟩
  rw [← hsn, ← hsq1] at hW HX0 HR
  rw [← hsn, ← hsq1]
  have HSN : Hid (sn = s.2.length ∧ bksR.lies n0 w [.slice ra sn rc] s.2) := by rw [hsn]; exact ⟨rfl, hRL⟩
  clear h hf hRL hRi hRm hsn hsq1
  go_enter Try.func6, Try.ntmps6
  go_wp2_with fail
  rw [← hW]
  clear hW
  refine HC.mono ?_
  rintro e w1 ⟨rfl, hb1⟩
  have H1 : Hid (Below w.heap.size w w1) := below_any HB0.out hb1
  have HX1 : Hid (Box w1 w.heap.size 24 #[.int .i64 sq1, .slice ra sn rc]) := HX0.out.below hb1 HX0.out.lt
  clear hb1 HC HB0 HX0
  obtain ⟨g0, g1, -, -⟩ := HX1.out.two
  have HC := of_any _ _ _ w1 (sgR.below HR.out.1 H1.out) HR.out.2
  go_wp2_with fail
  refine HC.mono ?_
  rintro e w2 ⟨⟨us2, rfl, hO2⟩, hb2⟩
  have H2 : Hid (Below w.heap.size w w2 ∧ Below w1.heap.size w1 w2) := ⟨below_any H1.out hb2, hb2⟩
  have HX2 : Hid (Box w2 w.heap.size 24 #[.int .i64 sq1, .slice ra sn rc]) := HX1.out.below hb2 HX1.out.lt
  have HL2 : Hid (sgN.owns w1.heap.size w2 us2 s) := hO2
  clear hb2 hO2 HC g0 g1 HX1
  have HC := owners_any _ us2 s w2 (sgN.olies HL2.out)
  go_wp2_with fail
  refine HC.mono ?_
  rintro e w3 ⟨⟨v, rfl, hO3⟩, hb3⟩
  have H3 : Hid (Below w.heap.size w w3) := below_any H2.out.1 hb3
  have HX3 : Hid (Box w3 w.heap.size 24 #[.int .i64 sq1, .slice ra sn rc]) := HX2.out.below hb3 HX2.out.lt
  clear hb3 HC HX2 H1 H2 HL2 HR
  by_cases hc : Chk s
  case neg =>
    rw [cerr_bad hc]
    rw [owV_bad hc] at hO3
    obtain ⟨va, vc, rfl⟩ := own_shape hO3
    have hll := run_len Try.underlying40 va 0 vc
    clear hO3 hc HX3 HSN
    go_wp2_with (go_at_call 18; refine (num_any _ _).mono ?_; rintro e wn ⟨rfl, rfl⟩)
    go_ret
    exact ⟨rfl, H3.out⟩
  rw [cerr_ok hc]
  rw [owV_ok hc] at hO3
  obtain ⟨hP, hM⟩ := onc_told (s.2.map fun p => p.1)
  obtain ⟨L, hL⟩ : ∃ L, L = onc (s.2.map fun p => p.1) := ⟨_, rfl⟩
  rw [← hL] at hO3 hP hM
  clear hL
  obtain ⟨va, vc, rfl⟩ := own_shape hO3
  have HO : Hid (OwnI w2.heap.size w3 (.slice va L.length vc) L ∧ L.Pairwise (· < ·) ∧ ∀ x, x ∈ L ↔ x ∈ s.2.map fun p => p.1) := ⟨hO3, hP, hM⟩
  have hn8 : sn ≤ 8 := by rw [HSN.out.1]; exact hc.2.1.2
  obtain ⟨n, hn⟩ : ∃ n, n = L.length := ⟨_, rfl⟩
  have HN : Hid (n = L.length) := hn
  have hnm : n ≤ maxLen := by
    rcases hO3.2 with ⟨_, h0⟩ | ⟨g, cap, cur, e1, _, _, h1, h2, _⟩
    · rw [hn, h0]; exact Nat.zero_le _
    · rw [hn]; omega
  unfold maxLen at hnm
  rw [← hn] at HO ⊢
  clear hc hO3 hP hM hn
  have hll := run_len Try.underlying40 va n vc
  have hls := run_len Try.underlying22 ra sn rc
  go_wp2_with (go_at_call 18; refine (num_any _ _).mono ?_; rintro e wn ⟨rfl, rfl⟩)
  go_loopw [5] (fun i wr => ∃ k : Nat, k ≤ n ∧ i = .int .i64 k ∧ Hid (Below w3.heap.size w3 wr)) (fun i _ => n - (intOf i).toNat)
  case atStart => exact ⟨0, Nat.zero_le _, rfl, Below.refl _ _⟩
  case round =>
    obtain ⟨k, hk, rfl, HB⟩ := hrel
    by_cases hlt : k < n
    case neg =>
      have hki : ¬ (k : Int) < (n : Int) := by omega
      go_wp2
      go_loopw [8] (fun i wq => ∃ j : Nat, j ≤ sn ∧ i = .int .i64 j ∧ Hid (Below w3.heap.size w3 wq)) (fun i _ => sn - (intOf i).toNat)
      case atStart => exact ⟨0, Nat.zero_le _, rfl, HB⟩
      case round =>
        obtain ⟨j, hj, rfl, HQ⟩ := hrel
        obtain ⟨-, g1, -, f1⟩ := (HX3.out.below HQ.out HX3.out.lt).two
        by_cases hjl : j < sn
        case neg =>
          have hji : ¬ (j : Int) < (sn : Int) := by omega
          have HE : Hid (Below w.heap.size w wr) := below_any H3.out HQ.out
          go_wp2
          go_ret
          exact ⟨rfl, HE.out⟩
        have hji : (j : Int) < (sn : Int) := by omega
        obtain ⟨p, hp⟩ := get_lt (l := s.2) (k := j) (by rw [← HSN.out.1]; exact hjl)
        have HP : Hid (p.1 ∈ L) := (HO.out.2.2 p.1).2 (List.mem_map.2 ⟨p, List.mem_of_getElem? hp, rfl⟩)
        obtain ⟨po, pr⟩ := p
        simp only at HP
        go_wp2
        clear g1 f1
        go_loopw [9, 10] (fun is i wq => ∃ k : Nat, k ≤ n ∧ i = .int .i64 k ∧ is = .bool (decide (po ∈ L.take k)) ∧ Hid (Below w3.heap.size w3 wq)) (fun _ i _ => n - (intOf i).toNat)
        case atStart => exact ⟨0, Nat.zero_le _, rfl, by simp, HQ⟩
        case round =>
          obtain ⟨i, hi, rfl, rfl, HT⟩ := hrel
          by_cases hil : i < n
          case neg =>
            obtain rfl : i = n := by omega
            have ht : decide (po ∈ L.take i) = true := by rw [HN.out, List.take_length]; exact decide_eq_true HP.out
            rw [ht]
            have hii : ¬ (i : Int) < (i : Int) := by omega
            clear ht hp
            go_wp2
            go_roundw
            case rel => exact ⟨j + 1, by omega, by go_num, HT⟩
            case measure => simp [intOf]; omega
          have hii : (i : Int) < (n : Int) := by omega
          obtain ⟨x, hx⟩ := get_lt (l := L) (k := i) (by rw [← HN.out]; exact hil)
          have hsn := snoc_mem hx po
          obtain ⟨bi, hbi⟩ : ∃ bi, bi = decide (po ∈ L.take i) := ⟨_, rfl⟩
          rw [← hbi] at hsn ⊢
          clear hbi
          have hO4 : OwnI w2.heap.size wr (.slice va n vc) L := own_below HO.out.1 HT.out
          obtain ⟨b1, o1, hix1, p1⟩ := ints_at hO4 i x hx
          obtain ⟨b2, o2, xa, xc, hix2, p2, -⟩ := bks_atR (bksR.below HSN.out.2 (below_any H3.out HT.out)) j _ hp
          obtain ⟨-, g1, -, f1⟩ := (HX3.out.below HT.out HX3.out.lt).two
          simp only at p2
          have HSM : Hid (decide (po ∈ L.take (i + 1)) = (bi || decide (x = po))) := hsn
          clear hsn hO4 hx hp
          cases bi
          · obtain ⟨bb, hbb⟩ : ∃ bb, bb = (po == x) := ⟨_, rfl⟩
            have HSM2 : Hid (decide (po ∈ L.take (i + 1)) = bb) := by
              show _ = _
              rw [HSM.out, hbb, Bool.false_or, Bool.beq_eq_decide_eq]
              exact decide_eq_decide.2 eq_comm
            go_wp2
            go_quiet (fail)
            have HT2 : Hid (Below w3.heap.size w3 (wr.drewN nq)) := below_drewN HT.out _
            go_wp2
            go_roundw
            case rel => exact ⟨i + 1, by omega, by go_num, by rw [HSM2.out, hbb], HT2⟩
            case measure => simp [intOf]; omega
          · have HSM2 : Hid (decide (po ∈ L.take (i + 1)) = true) := by rw [HSM.out, Bool.true_or]; rfl
            go_wp2
            go_quiet (fail)
            have HT2 : Hid (Below w3.heap.size w3 (wr.drewN nq)) := below_drewN HT.out _
            go_wp2
            go_roundw
            case rel => exact ⟨i + 1, by omega, by go_num, by rw [HSM2.out], HT2⟩
            case measure => simp [intOf]; omega
    have hki : (k : Int) < (n : Int) := by omega
    obtain ⟨x, hx⟩ := get_lt (l := L) (k := k) (by rw [← HN.out]; exact hlt)
    have HXM : Hid (x ∈ s.2.map fun p => p.1) := (HO.out.2.2 x).1 (List.mem_of_getElem? hx)
    have HXL : Hid (L[k]? = some x) := hx
    clear hx
    go_wp2
    go_loopw [6, 7] (fun is i wq => ∃ j : Nat, j ≤ sn ∧ i = .int .i64 j ∧ is = .bool (decide (x ∈ (s.2.map fun p => p.1).take j)) ∧ Hid (Below w3.heap.size w3 wq)) (fun _ i _ => sn - (intOf i).toNat)
    case atStart => exact ⟨0, Nat.zero_le _, rfl, by simp, HB⟩
    case round =>
      obtain ⟨j, hj, rfl, rfl, HT⟩ := hrel
      obtain ⟨-, g1, -, f1⟩ := (HX3.out.below HT.out HX3.out.lt).two
      have hO4 : OwnI w2.heap.size wr (.slice va n vc) L := own_below HO.out.1 HT.out
      obtain ⟨b1, o1, hix1, p1⟩ := ints_at hO4 k x HXL.out
      by_cases hjl : j < sn
      case neg =>
        obtain rfl : j = sn := by omega
        have ht : decide (x ∈ (s.2.map fun p => p.1).take j) = true := by
          rw [HSN.out.1, List.take_of_length_le (by simp)]
          exact decide_eq_true HXM.out
        rw [ht]
        have hji : ¬ (j : Int) < (j : Int) := by omega
        clear ht
        by_cases hk0 : k = 0
        · subst hk0
          clear hO4
          go_wp2
          go_quiet (fail)
          have HT2 : Hid (Below w3.heap.size w3 (wr.drewN nq)) := below_drewN HT.out _
          go_wp2
          go_roundw
          case rel => exact ⟨1, by omega, by go_num, HT2⟩
          case measure => simp [intOf]; omega
        · obtain ⟨y, hy⟩ := get_lt (l := L) (k := k - 1) (by rw [← HN.out]; omega)
          have hlt2 : y < x := by
            have h1 := List.getElem?_eq_some_iff.1 hy
            have h2 := List.getElem?_eq_some_iff.1 HXL.out
            have := List.pairwise_iff_getElem.1 HO.out.2.1 (k - 1) k h1.1 h2.1 (by omega)
            rw [h1.2, h2.2] at this
            exact this
          obtain ⟨b2, o2, hix2, p2⟩ := ints_at hO4 (k - 1) y hy
          rw [show ((k - 1 : Nat) : Int) = (k : Int) - 1 by omega] at hix2
          have hxy : ¬ x ≤ y := by omega
          have hk0i : (0 : Int) < (k : Int) := by omega
          have hk0n : 0 < k := by omega
          have hkd : decide ((0 : Int) < (k : Int)) = true := by simp; omega
          have hkd2 : decide (0 < k) = true := by simp; omega
          have hwk : wrap64 ((k : Int) - 1) = (k : Int) - 1 := by unfold wrap64; omega
          have hwk2 : IntKind.i64.wrap ((k : Int) - 1) = (k : Int) - 1 := by unfold IntKind.wrap; simp [IntKind.signed, IntKind.bits]; omega
          clear hO4 hy hk0 hlt2
          go_wp2
          go_quiet (fail)
          have HT2 : Hid (Below w3.heap.size w3 (wr.drewN nq)) := below_drewN HT.out _
          go_wp2
          go_roundw
          case rel => exact ⟨k + 1, by omega, by go_num, HT2⟩
          case measure => simp [intOf]; omega
      have hji : (j : Int) < (sn : Int) := by omega
      obtain ⟨p, hp⟩ := get_lt (l := s.2) (k := j) (by rw [← HSN.out.1]; exact hjl)
      obtain ⟨b2, o2, xa, xc, hix2, p2, -⟩ := bks_atR (bksR.below HSN.out.2 (below_any H3.out HT.out)) j _ hp
      have hsn := snoc_mem (l := s.2.map fun p => p.1) (k := j) (y := p.1) (by rw [List.getElem?_map, hp]; rfl) x
      obtain ⟨bi, hbi⟩ : ∃ bi, bi = decide (x ∈ (s.2.map fun p => p.1).take j) := ⟨_, rfl⟩
      rw [← hbi] at hsn ⊢
      clear hbi
      obtain ⟨po, pr⟩ := p
      simp only at p2 hsn
      have HSM : Hid (decide (x ∈ (s.2.map fun p => p.1).take (j + 1)) = (bi || decide (po = x))) := hsn
      clear hsn hO4 hp
      cases bi
      · obtain ⟨bb, hbb⟩ : ∃ bb, bb = (po == x) := ⟨_, rfl⟩
        have HSM2 : Hid (decide (x ∈ (s.2.map fun p => p.1).take (j + 1)) = bb) := by
          show _ = _
          rw [HSM.out, hbb, Bool.false_or, Bool.beq_eq_decide_eq]
        go_wp2
        go_quiet (fail)
        have HT2 : Hid (Below w3.heap.size w3 (wr.drewN nq)) := below_drewN HT.out _
        go_wp2
        go_roundw
        case rel => exact ⟨j + 1, by omega, by go_num, by rw [HSM2.out, hbb], HT2⟩
        case measure => simp [intOf]; omega
      · have HSM2 : Hid (decide (x ∈ (s.2.map fun p => p.1).take (j + 1)) = true) := by rw [HSM.out, Bool.true_or]; rfl
        go_wp2
        go_quiet (fail)
        have HT2 : Hid (Below w3.heap.size w3 (wr.drewN nq)) := below_drewN HT.out _
        go_wp2
        go_roundw
        case rel => exact ⟨j + 1, by omega, by go_num, by rw [HSM2.out], HT2⟩
        case measure => simp [intOf]; omega

set_option maxRecDepth 100000 in
theorem lifted (os : Os) (started : os.Started) (H : Type) (enc : TypeId × Value → H) :
    ReturnsInHanded {} Try.checked os 6 .any (Rows.segmentOwnersSpec.pre6 enc Try.prog Try.f6 Rows.segmentOwnersRow.domain false) (Rows.segmentOwnersSpec.post enc Try.prog Try.f6 false true false false) := by
  refine returnsInHanded_of_change_sized (C := Try.checked) own started (by kernel_rfl) Try.func6
    (ChangeSpec.witness6 (enc := enc) (C := Try.checked) false ⟨#[], #[.agg #[.int .i64 0, .slice none 0 0]], []⟩ 8 (by kernel_rfl) (by kernel_rfl) (by kernel_rfl) (by kernel_rfl)) ?_
  intro W base args ds gs before hval0 hW hcnd hsz0 _
  have hval : ∀ (j : Nat) t v, Try.f6.params[j]? = some t → args[j]? = some v → Value.okWide Try.prog W .any base t v := hval0
  have hW' := hW
  obtain ⟨p, q, hA0, hV, rfl, hfz, hnd⟩ := hW
  have hA : DataW.TrodAll enc Try.prog W 0 (fun _ => true) true Try.f6.params.toList args.toList ds p := hA0
  have hsz : (DataW.weightsEach Try.prog (Try.f6.params.toList ++ Rows.segmentOwnersSpec.plain.varTypes Try.prog) (ds ++ gs)).all (· ≤ reachBytes) = true := hsz0
  clear hsz0
  rw [Try.params6] at hA hval hsz
  obtain ⟨v0, vs0, d0, ds0, p0, q0, hargs, rfl, rfl, h0, r0⟩ := trodAll_cons hA
  obtain ⟨rfl, rfl, rfl⟩ := trodAll_nil r0
  obtain rfl : args = #[v0] := by cases args; simp_all
  obtain ⟨rfl, rfl⟩ := trodVars_none hV
  obtain ⟨cs0, rfl, hc0⟩ := okWide_struct Try.underlying24 (hval 0 24 v0 rfl rfl)
  obtain ⟨us0, rfl⟩ := as_list cs0
  have k0 := h0
  have lt0 : ∀ x ∈ p0, x.block < W.heap.size := by obtain ⟨m, hm⟩ := k0; exact DataW.trod_lt m _ _ _ hm
  obtain ⟨m0, hm0⟩ := h0
  obtain ⟨s0, A0, F0'⟩ := sgR.reads hm0
  have F0 := F0' fun n hn => by have := List.all_eq_true.1 hsz _ (DataW.weights_mem_each (j := 0) rfl rfl n hn); simpa using this
  clear hA0 hval0
  refine (walk 0 us0 s0 W A0 (fits_of F0)).mono fun e W' ⟨he, bel⟩ => ?_
  subst he
  exact ⟨_, rfl, _, _, _, [], _, [], hW', trodAll_mk1 (shut_bool Try.underlying4 _), (trodAll_cons_mk (Below.trod laidOut (by kernel_rfl) (of_decide_eq_true (by kernel_rfl)) k0 bel lt0) trodAll_mk0), rfl, bel.frame _, fun h => by cases h⟩

theorem over : Rows.segmentOwnersRow.holds Try.pinned (OpenSpec.ofChange Rows.segmentOwnersSpec) :=
  OpenClaim.holds_of_wide 6 Try.f6 rfl rfl rfl rfl rfl rfl rfl ⟨rfl, rfl, rfl, rfl, rfl⟩ rfl rfl rfl rfl rfl (by kernel_rfl) Try.func6 (by kernel_rfl)
    (of_decide_eq_true (by kernel_rfl)) (by unfold Func.isWrapper; first | (rw [if_pos (by decide +kernel)]; kernel_rfl) | (rw [if_neg (by decide +kernel)]; exact ⟨rfl, rfl⟩))
    (fun os started H enc _ => lifted os started H enc)

end Go.Proofs.Ytmjgamokddedkaa.segmentOwners

namespace Go.Proofs.Ytmjgamokddedkaa
theorem segmentOwners_holds : Rows.SegmentOwnersSaid := segmentOwners.over
#print axioms segmentOwners_holds
end Go.Proofs.Ytmjgamokddedkaa
