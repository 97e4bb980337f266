/-
  NetFor, proved: for every network of the document (as great as the form reads it): the call returns true, and changes nothing that was in memory. No condition of its own.
-/
import Derived.Test.YtpecniajamgjiaaFor
import Derived.Test.YtpecniajamgjiaaAlive
import Derived.Test.YtpecniajamgjiaaFrame
namespace Go.Proofs.Ytpecniajamgjiaa.netFor
open Go.ChangeShapes Go.WideShapes Go.ChangeAt Go.RowKit
set_option linter.unusedVariables false

theorem places_mem (to : Int) : ∀ (l : List Pk) (i : Nat) (x : Int), x ∈ places to i l → ∃ k p, x = ((i + k : Nat) : Int) ∧ l[k]? = some p ∧ p.2.1 = to
  | [], _, _, h => by simp [places] at h
  | q :: r, i, x, h => by
    rw [places, List.mem_append] at h
    rcases h with h | h
    · split at h
      · rename_i hq
        obtain rfl := List.mem_singleton.1 h
        exact ⟨0, q, by simp, rfl, hq⟩
      · cases h
    · obtain ⟨k, p, h1, h2, h3⟩ := places_mem to r (i + 1) x h
      exact ⟨k + 1, p, by rw [h1]; congr 1; omega, by simpa using h2, h3⟩

theorem places_rise (to : Int) : ∀ (l : List Pk) (i : Nat), (places to i l).Pairwise (· < ·)
  | [], _ => List.Pairwise.nil
  | q :: r, i => by
    rw [places, List.pairwise_append]
    refine ⟨by split <;> simp, places_rise to r (i + 1), fun a ha b hb => ?_⟩
    obtain ⟨k, _, h1, _⟩ := places_mem to r (i + 1) b hb
    split at ha
    · obtain rfl := List.mem_singleton.1 ha
      omega
    · cases ha

theorem rise_at {L : List Int} (h : L.Pairwise (· < ·)) (j : Nat) (x y : Int) (hx : L[j]? = some x) (hy : L[j + 1]? = some y) : x < y := by
  obtain ⟨h1, rfl⟩ := List.getElem?_eq_some_iff.1 hx
  obtain ⟨h2, rfl⟩ := List.getElem?_eq_some_iff.1 hy
  exact List.pairwise_iff_getElem.1 h j (j + 1) h1 h2 (by omega)

/-- How many packets there are for the nodes below T. -/
def cnt (T : Nat) (l : List Pk) : Nat := (l.filter fun p => decide (0 ≤ p.2.1) && decide (p.2.1 < (T : Int))).length
theorem cnt_zero (l : List Pk) : cnt 0 l = 0 := by
  unfold cnt
  rw [List.length_eq_zero_iff, List.filter_eq_nil_iff]
  intro p _
  simp
theorem cnt_cons (T : Nat) (p : Pk) (l : List Pk) : cnt T (p :: l) = (if 0 ≤ p.2.1 ∧ p.2.1 < (T : Int) then 1 else 0) + cnt T l := by
  unfold cnt
  rw [List.filter_cons]
  by_cases h : 0 ≤ p.2.1 ∧ p.2.1 < (T : Int)
  · rw [if_pos (by simp [h.1, h.2]), if_pos h, List.length_cons]
    omega
  · rw [if_neg (by simp only [Bool.and_eq_true, decide_eq_true_eq]; exact h), if_neg h]
    omega
theorem cnt_succ (T : Nat) : ∀ (l : List Pk) (i : Nat), cnt (T + 1) l = cnt T l + (places (T : Int) i l).length
  | [], _ => rfl
  | p :: l, i => by
    rw [cnt_cons, cnt_cons, places, List.length_append, cnt_succ T l (i + 1)]
    by_cases h : p.2.1 = (T : Int)
    · rw [if_pos (by omega), if_neg (by omega), if_pos h]
      simp
      omega
    · rw [if_neg h]
      by_cases h2 : 0 ≤ p.2.1 ∧ p.2.1 < (T : Int)
      · rw [if_pos (by omega), if_pos h2]
        simp
        omega
      · rw [if_neg (by omega), if_neg h2]
        simp
theorem cnt_all {l : List Pk} (h : ∀ p ∈ l, okP p = true) : cnt 9 l = l.length := by
  unfold cnt
  rw [List.filter_eq_self.2]
  intro p hp
  have := h p hp
  simp only [okP, node, Bool.and_eq_true, decide_eq_true_eq] at this ⊢
  omega
theorem cnt_le (T : Nat) (l : List Pk) : cnt T l ≤ l.length := List.length_filter_le ..

set_option maxRecDepth 100000 in
set_option maxHeartbeats 8000000 in
theorem walk (us : List Value) (s : St) (w : World) (h : stR.lies 0 w us s) (hf : Fits s) :
    Calls Try.prog 5 #[.agg us.toArray] w fun e w' => e = .returned (.bool true) ∧ Below w.heap.size w w' := by
  obtain ⟨a, c, rfl, hL, hi, hm⟩ := st_viewR h
  obtain ⟨lim, l⟩ := s
  simp only at hL hi hm
  have HD : Hid (stR.lies 0 w [.int .i64 lim, .slice a l.length c] (lim, l) ∧ Fits (lim, l)) := ⟨h, hf⟩
  obtain ⟨n, hn⟩ : ∃ n, n = l.length := ⟨_, rfl⟩
  have HN : Hid (n = l.length) := hn
  have HL : Hid (pksR.lies 0 w [.slice a l.length c] l) := hL
  simp only
  rw [← hn] at HD HL hm ⊢
  unfold maxLen at hm
  have hl1 := run_len Try.underlying22 a n c
  clear h hL hi hf hn
  go_enter Try.func5, Try.ntmps5
  go_wp2_with fail
  refine (alive_any _).mono ?_
  rintro e w1 ⟨rfl, hb1⟩
  have hP1 : Box w1 w.heap.size 24 #[.int .i64 lim, .slice a n c] := (Box.new w 24 _).below hb1 (by simp)
  have HB1 : Hid (Box w1 w.heap.size 24 #[.int .i64 lim, .slice a n c] ∧ Below w.heap.size w w1) := ⟨hP1, below_any ((Below.refl _ w).alloc (Nat.le_refl _) _) hb1⟩
  clear hb1 hP1
  go_wp2
  go_loopw [3, 4] (fun cn to wr => ∃ T : Nat, T ≤ 9 ∧ to = .int .i64 T ∧ cn = .int .i64 (cnt T l : Nat) ∧ Hid (0 < T → chk (lim, l) = true) ∧ Below w1.heap.size w1 wr) (fun _ to _ => 9 - (intOf to).toNat)
  case atStart => exact ⟨0, by omega, rfl, by rw [cnt_zero]; rfl, fun h => by omega, Below.refl _ _⟩
  case round =>
    obtain ⟨T, hT, rfl, rfl, HK, hbel⟩ := hrel
    have HB2 : Hid (Box wr w.heap.size 24 #[.int .i64 lim, .slice a n c] ∧ Below w.heap.size w wr ∧ Below w1.heap.size w1 wr) := ⟨HB1.out.1.below hbel HB1.out.1.lt, below_any HB1.out.2 hbel, hbel⟩
    obtain ⟨g0, g1, _, _⟩ := HB2.out.1.two
    clear hbel
    by_cases hlt : T < 9
    · have HO := of_any 0 _ (lim, l) wr (stR.below HD.out.1 HB2.out.2.1) HD.out.2
      have hti : (T : Int) < 9 := by omega
      go_wp2_with fail
      refine HO.mono ?_
      rintro e w2 ⟨⟨u2, rfl, hO2⟩, hb2⟩
      have HF := for_any wr.heap.size u2 (lim, l) T w2 (stN.olies hO2)
      obtain ⟨x2, y2, rfl, _⟩ := st_ownN hO2
      obtain ⟨ce, hce⟩ : ∃ x, x = cerr (lim, l) := ⟨_, rfl⟩
      have HCE : Hid (ce = if chk (lim, l) then 0 else 9) := hce
      rw [← hce] at HF
      have HB3 : Hid (Below w.heap.size w w2 ∧ Below w1.heap.size w1 w2) := ⟨below_any HB2.out.2.1 hb2, below_any HB2.out.2.2 hb2⟩
      clear hO2 hb2 HO
      go_wp2_with fail
      refine HF.mono ?_
      rintro e w3 ⟨⟨v3, rfl, hO3⟩, hb3⟩
      have HB4 : Hid (Below w.heap.size w w3 ∧ Below w1.heap.size w1 w3 ∧ Box w3 w.heap.size 24 #[.int .i64 lim, .slice a n c]) := ⟨below_any HB3.out.1 hb3, below_any HB3.out.2 hb3, HB1.out.1.below (below_any HB3.out.2 hb3) HB1.out.1.lt⟩
      clear HF hb3 g0 g1 HB3
      cases hc : chk (lim, l)
      · obtain rfl : ce = 9 := by rw [HCE.out, hc]; rfl
        have HR := rcheck_any 0 _ (lim, l) w3 (stR.below HD.out.1 HB4.out.1)
        rw [← hce] at HR
        obtain ⟨g0, g1, _, _⟩ := HB4.out.2.2.two
        clear hce hO3
        go_wp2_with (first | (go_at_call 20; refine (num_any _ _).mono ?_; rintro e w6 ⟨rfl, rfl⟩) | (go_at_call 24; refine HR.mono ?_; rintro e w7 ⟨rfl, hb7⟩))
        go_ret
        exact ⟨rfl, below_any HB4.out.1 hb7⟩
      · obtain rfl : ce = 0 := by rw [HCE.out, hc]; rfl
        have hpl : pls (lim, l) T = places T 0 l := by simp [pls, hc]
        rw [hpl] at hO3
        obtain ⟨x3, y3, e3, _, _, _⟩ := ints_len (intsS.olies hO3)
        obtain rfl : v3 = _ := by simpa using e3
        have HLE := places_le T l 0
        obtain ⟨L, hL⟩ : ∃ L, L = places T 0 l := ⟨_, rfl⟩
        rw [← hL] at hO3 HLE
        obtain ⟨m, hm'⟩ : ∃ m, m = L.length := ⟨_, rfl⟩
        rw [← hm'] at hO3 HLE
        rw [← hL, ← hm']
        have HI : Hid (intsS.lies 0 w3 [.slice x3 m y3] L ∧ m = L.length ∧ L = places T 0 l ∧ cnt (T + 1) l = cnt T l + m) := ⟨intsS.weaken (intsS.olies hO3) (Nat.zero_le _), hm', hL, by rw [cnt_succ T l 0, hm', hL]⟩
        have HCN : Hid (cnt T l ≤ n) := by have := cnt_le T l; have := HN.out; show _ ≤ _; omega
        obtain ⟨cT, hcT⟩ : ∃ x, x = cnt T l := ⟨_, rfl⟩
        rw [← hcT] at HI HCN ⊢
        have hcn : cT ≤ n := HCN.out
        have hmn : m ≤ n := by have := HN.out; omega
        have hl2 := run_len Try.underlying49 x3 m y3
        have HCC : Hid (chk (lim, l) = true) := hc
        have hn4 : n ≤ 4096 := by rw [HN.out]; exact (chk_fits hc).2
        clear hce hO3 e3 hpl hL hm' HLE hcT hc HCN
        go_wp2_with (go_at_call 20; refine (num_any _ _).mono ?_; rintro e w6 ⟨rfl, rfl⟩)
        go_loopw [3, 7] (fun cn i wq => ∃ j : Nat, j ≤ m ∧ i = .int .i64 j ∧ cn = .int .i64 ((cT + j : Nat) : Int) ∧ ∃ q, wq = w3.drewN q) (fun _ i _ => m - (intOf i).toNat)
        case atStart => exact ⟨0, by omega, rfl, rfl, 0, rfl⟩
        case round =>
          obtain ⟨j, hj, rfl, rfl, q, rfl⟩ := hrel
          by_cases hjl : j < m
          · obtain ⟨x, hx⟩ := get_lt (l := L) (k := j) (by rw [← HI.out.2.1]; exact hjl)
            obtain ⟨k, p, hxk, hp, hpt⟩ := places_mem T l 0 x (by rw [← HI.out.2.2.1]; exact List.mem_of_getElem? hx)
            have hxk' : (k : Int) = x := by rw [hxk]; congr 1; omega
            obtain ⟨b1, o1, hix1, g1, _⟩ := ints_at HI.out.1 j _ hx
            obtain ⟨b2, o2, x2, cp2, hix2, _, g2, _⟩ := pks_atR (pksR.below HL.out HB4.out.1) k p hp
            rw [hpt] at g2
            rw [hxk'] at hix2
            have hkn : k < n := by rw [HN.out]; exact (List.getElem?_eq_some_iff.1 hp).1
            have C1 : Hid (¬ x < 0 ∧ ¬ (n : Int) ≤ x) := ⟨by omega, by omega⟩
            obtain ⟨g3, g4, _, _⟩ := HB4.out.2.2.two
            have HX : Hid (L[j]? = some x) := hx
            clear hx hp hpt hxk hxk' hkn
            have hji : (j : Int) < (m : Int) := by omega
            by_cases hj0 : 0 < j
            · obtain ⟨y, hy⟩ := get_lt (l := L) (k := j - 1) (by rw [← HI.out.2.1]; omega)
              have hlt' : y < x := rise_at (by rw [HI.out.2.2.1]; exact places_rise T l 0) (j - 1) y x hy (by rw [show j - 1 + 1 = j by omega]; exact HX.out)
              obtain ⟨b3, o3, hix3, g5, _⟩ := ints_at HI.out.1 (j - 1) _ hy
              rw [show ((j - 1 : Nat) : Int) = (j : Int) - 1 by omega] at hix3
              have C3 : Hid (¬ x ≤ y) := by show ¬ _; omega
              clear hy
              go_wp2
              have c1 : decide (x < 0) = false := decide_eq_false (by have := C1.out; omega)
              have c2 : decide ((n : Int) ≤ x) = false := decide_eq_false (by have := C1.out; omega)
              have c3 : decide (x ≤ y) = false := decide_eq_false (by have := C3.out; omega)
              go_quiet (fail)
              clear c1 c2 c3
              go_wp2
              go_roundw
              case rel => exact ⟨j + 1, by omega, by go_num, by go_num, _, rfl⟩
              case measure => simp [intOf]; omega
            · have C3 : Hid (¬ 0 < j) := hj0
              go_wp2
              have c1 : decide (x < 0) = false := decide_eq_false (by have := C1.out; omega)
              have c2 : decide ((n : Int) ≤ x) = false := decide_eq_false (by have := C1.out; omega)
              have c3 : decide (0 < j) = false := decide_eq_false (by have := C3.out; omega)
              go_quiet (fail)
              clear c1 c2 c3
              go_wp2
              go_roundw
              case rel => exact ⟨j + 1, by omega, by go_num, by go_num, _, rfl⟩
              case measure => simp [intOf]; omega
          · obtain rfl : j = m := by omega
            go_wp2
            go_roundw
            case rel => exact ⟨T + 1, by omega, by go_num, by rw [HI.out.2.2.2], fun _ => HCC.out, below_drewN HB4.out.2.1 q⟩
            case measure => simp [intOf]; omega
    · obtain rfl : T = 9 := by omega
      have HE : Hid (cnt 9 l = n) := by
        show _ = _
        rw [HN.out]
        exact cnt_all (chk_facts (HK.out (by omega))).2.2.2
      rw [HE.out]
      go_wp2
      go_ret
      exact ⟨rfl, HB2.out.2.1⟩

set_option maxRecDepth 100000 in
theorem lifted (os : Os) (started : os.Started) (H : Type) (enc : TypeId × Value → H) :
    ReturnsInHanded {} Try.checked os 5 .any (Rows.netForSpec.pre6 enc Try.prog Try.f5 Rows.netForRow.domain false) (Rows.netForSpec.post enc Try.prog Try.f5 false true false false) := by
  refine returnsInHanded_of_change_sized (C := Try.checked) own started (by kernel_rfl) Try.func5
    (ChangeSpec.witness6 (enc := enc) (C := Try.checked) false ⟨#[], #[.agg #[.int .i64 0, .slice none 0 0]], []⟩ 8 (by kernel_rfl) (by kernel_rfl) (by kernel_rfl) (by kernel_rfl)) ?_
  intro W base args ds gs before hval0 hW hcnd hsz0 _
  have hval : ∀ (j : Nat) t v, Try.f5.params[j]? = some t → args[j]? = some v → Value.okWide Try.prog W .any base t v := hval0
  have hW' := hW
  obtain ⟨p, q, hA0, hV, rfl, hfz, hnd⟩ := hW
  have hA : DataW.TrodAll enc Try.prog W 0 (fun _ => true) true Try.f5.params.toList args.toList ds p := hA0
  have hsz : (DataW.weightsEach Try.prog (Try.f5.params.toList ++ Rows.netForSpec.plain.varTypes Try.prog) (ds ++ gs)).all (· ≤ reachBytes) = true := hsz0
  clear hsz0
  rw [Try.params5] at hA hval hsz
  obtain ⟨v0, vs0, d0, ds0, p0, q0, hargs, rfl, rfl, h0, r0⟩ := trodAll_cons hA
  obtain ⟨rfl, rfl, rfl⟩ := trodAll_nil r0
  obtain rfl : args = #[v0] := by cases args; simp_all
  obtain ⟨rfl, rfl⟩ := trodVars_none hV
  obtain ⟨cs0, rfl, hc0⟩ := okWide_struct Try.underlying24 (hval 0 24 v0 rfl rfl)
  obtain ⟨us0, rfl⟩ := as_list cs0
  have k0 := h0
  have lt0 : ∀ x ∈ p0, x.block < W.heap.size := by obtain ⟨m, hm⟩ := k0; exact DataW.trod_lt m _ _ _ hm
  obtain ⟨m0, hm0⟩ := h0
  obtain ⟨s0, A0, F0'⟩ := stR.reads hm0
  have F0 := F0' fun n hn => by have := List.all_eq_true.1 hsz _ (DataW.weights_mem_each (j := 0) rfl rfl n hn); simpa using this
  clear hA0 hval0
  refine (walk us0 s0 W A0 (fits_of F0)).mono fun e W' ⟨he, bel⟩ => ?_
  subst he
  exact ⟨_, rfl, _, _, _, [], _, [], hW', trodAll_mk1 (shut_bool Try.underlying4 _), (trodAll_cons_mk (Below.trod laidOut (by kernel_rfl) (of_decide_eq_true (by kernel_rfl)) k0 bel lt0) trodAll_mk0), rfl, bel.frame _, fun h => by cases h⟩

theorem over : Rows.netForRow.holds Try.pinned (OpenSpec.ofChange Rows.netForSpec) :=
  OpenClaim.holds_of_wide 5 Try.f5 rfl rfl rfl rfl rfl rfl rfl ⟨rfl, rfl, rfl, rfl, rfl⟩ rfl rfl rfl rfl rfl (by kernel_rfl) Try.func5 (by kernel_rfl)
    (of_decide_eq_true (by kernel_rfl)) (by unfold Func.isWrapper; first | (rw [if_pos (by decide +kernel)]; kernel_rfl) | (rw [if_neg (by decide +kernel)]; exact ⟨rfl, rfl⟩))
    (fun os started H enc _ => lifted os started H enc)

end Go.Proofs.Ytpecniajamgjiaa.netFor

namespace Go.Proofs.Ytpecniajamgjiaa
theorem netFor_holds : Rows.NetForSaid := netFor.over
#print axioms netFor_holds
end Go.Proofs.Ytpecniajamgjiaa
