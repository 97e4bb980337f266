/-
  OctetsDigits, proved: for every int: the call returns true, and changes nothing that was in memory. No condition.
-/
import Derived.Test.YtiinboedojjbkaaAlive
import Derived.Test.YtiinboedojjbkaaOrderMath
import Derived.OpenShut
import Derived.ShutString
import Derived.Laws.Concat
namespace Go.Proofs.Ytiinboedojjbkaa.octetsDigits
open Go.ChangeShapes Go.WideShapes Go.ChangeAt Go.RowKit
open Go.ChangeMaps (open_string shut_string)
set_option linter.unusedVariables false

theorem own : ownKnob Try.prog.godebug = none := by kernel_rfl

theorem dec_decN (m : Nat) : ∃ j, dec m = decN m (j + 1) ∧ m / 10 ^ (j + 1) = 0 ∧ (j = 0 ∨ m / 10 ^ j ≠ 0) := by
  induction m using Nat.strongRecOn with
  | _ m ih =>
    by_cases h : m < 10
    · exact ⟨0, by rw [decN_dec 0 m (by omega) (.inl rfl)], by omega, .inl rfl⟩
    · obtain ⟨j, _, h1, h2⟩ := ih (m / 10) (by omega)
      have e1 : m / 10 ^ (j + 1 + 1) = m / 10 / 10 ^ (j + 1) := by rw [Nat.div_div_eq_div_mul, Nat.mul_comm, ← Nat.pow_succ]
      have e2 : m / 10 ^ (j + 1) = m / 10 / 10 ^ j := by rw [Nat.div_div_eq_div_mul, Nat.mul_comm, ← Nat.pow_succ]
      have g1 : m / 10 ^ (j + 1 + 1) = 0 := by rw [e1]; exact h1
      have g2 : m / 10 ^ (j + 1) ≠ 0 := by
        rw [e2]
        rcases h2 with rfl | h2
        · simp; omega
        · exact h2
      exact ⟨j + 1, by rw [decN_dec (j + 1) m g1 (.inr g2)], g1, .inr g2⟩

/-- The bytes of a text that was made of numbers. -/
theorem str_get (L : List Int) (hr : ∀ x ∈ L, 0 ≤ x ∧ x ≤ 255) (p : Nat) (h : p < (strOfNums L).size) : (((strOfNums L)[p]'h).toNat : Int) = L.getD p 0 := by
  have hl : p < L.length := by rwa [strOfNums_size] at h
  have e : (strOfNums L)[p]'h = UInt8.ofNat (L[p]).toNat := by
    show (strOfNums L).data[p]'_ = _
    simp [strOfNums]
  rw [e, UInt8.toNat_ofNat']
  have := hr L[p] (List.getElem_mem hl)
  simp [List.getD, List.getElem?_eq_getElem hl]
  omega

theorem decimal_range (n : Int) : ∀ x ∈ decimal n, 0 ≤ x ∧ x ≤ 255 := by
  intro x hx
  unfold decimal at hx
  split at hx
  · rcases List.mem_cons.1 hx with rfl | hx
    · omega
    · have := dec_range _ x hx; omega
  · have := dec_range _ x hx; omega


theorem neg_facts (n : Int) (m : Nat) (hn : n < 0) (hm : m = n.natAbs) (S : ByteArray) (hS : S = strOfNums (decimal n)) :
    ∃ j, S.size = j + 2 ∧ m / 10 ^ (j + 1) = 0 ∧ (∀ h, ((S[0]'h).toNat : Int) = 45) ∧
      (∀ p, 1 ≤ p → ∀ h : p < S.size, ((S[p]'h).toNat : Int) = 48 + ((m / 10 ^ (j + 1 - p) % 10 : Nat) : Int)) ∧ (j = 0 ∨ m / 10 ^ j % 10 ≠ 0) := by
  subst hS
  obtain ⟨j, h1, h2, h3⟩ := dec_decN m
  have hd : decimal n = 45 :: decN m (j + 1) := by unfold decimal; rw [if_pos hn, ← hm, h1]
  have hr := decimal_range n
  refine ⟨j, by rw [strOfNums_size, hd]; simp, h2, fun h => ?_, fun p hp h => ?_, ?_⟩
  · rw [str_get _ hr, hd]; rfl
  · rw [str_get _ hr, hd]
    rw [strOfNums_size, hd] at h
    obtain ⟨p, rfl⟩ : ∃ q, p = q + 1 := ⟨p - 1, by omega⟩
    simp only [List.length_cons, decN_length] at h
    simp only [List.getD, List.getElem?_cons_succ, decN, List.getElem?_map, List.getElem?_range (show p < j + 1 by omega), Option.map_some, Option.getD_some]
    rw [show j + 1 - 1 - p = j + 1 - (p + 1) by omega]
  · rcases h3 with h3 | h3
    · exact .inl h3
    · right
      rw [dstep] at h2
      omega

theorem pos_facts (m : Nat) (S : ByteArray) (hS : S = strOfNums (decimal m)) :
    ∃ j, S.size = j + 1 ∧ m / 10 ^ (j + 1) = 0 ∧
      (∀ p, ∀ h : p < S.size, ((S[p]'h).toNat : Int) = 48 + ((m / 10 ^ (j - p) % 10 : Nat) : Int)) ∧ (j = 0 ∨ m / 10 ^ j % 10 ≠ 0) := by
  subst hS
  obtain ⟨j, h1, h2, h3⟩ := dec_decN m
  have hd : decimal m = decN m (j + 1) := by unfold decimal; rw [if_neg (by omega), Int.natAbs_natCast, h1]
  have hr := decimal_range m
  refine ⟨j, by rw [strOfNums_size, hd]; simp, h2, fun p h => ?_, ?_⟩
  · rw [str_get _ hr, hd]
    rw [strOfNums_size, hd] at h
    simp only [decN_length] at h
    simp only [List.getD, decN, List.getElem?_map, List.getElem?_range h, Option.map_some, Option.getD_some]
    rw [show j + 1 - 1 - p = j - p by omega]
  · rcases h3 with h3 | h3
    · exact .inl h3
    · right
      rw [dstep] at h2
      omega

set_option maxHeartbeats 1000000 in
theorem walk_neg (n : Int) (w : World) (h0 : -9223372036854775808 ≤ n) (hn : n < 0) :
    Calls Try.prog 7 #[.int .i64 n] w fun e w' => e = .returned (.bool true) ∧ Below w.heap.size w w' := by
  have hdec := fun w => dec_any n w h0 (by omega)
  obtain ⟨m, hm⟩ : ∃ m, m = n.natAbs := ⟨_, rfl⟩
  obtain ⟨S, hS⟩ : ∃ S, S = strOfNums (decimal n) := ⟨_, rfl⟩
  obtain ⟨j, hsz, hz, hfirst, hdig, hlead⟩ := neg_facts n m hn hm S hS
  rw [← hS] at hdec
  have hmu : m ≤ 9223372036854775808 := by omega
  have hj : j ≤ 20 := by
    rcases hlead with h | h
    · omega
    · have := div_lt m j 19 (by omega) (by omega); omega
  have hwm : IntKind.u64.wrap (-IntKind.u64.wrap n) = (m : Int) := by simp only [IntKind.wrap_u64]; omega
  have HM : Hid (m = n.natAbs) := hm
  have HZ : Hid (m / 10 ^ (j + 1) = 0) := hz
  have hs1 : (1 : Int) < (S.size : Int) := by omega
  have hs0 : ¬ (S.size : Int) ≤ 1 := by omega
  have hp0 : 0 < S.size := by omega
  have hf0 := hfirst hp0
  clear hS hm hz hfirst
  have HSZ : Hid (S.size = j + 2) := hsz
  have hsm : S.size ≤ 30 := by omega
  clear hsz hj
  rcases (show (¬ (2 : Int) < (S.size : Int)) ∨ ((2 : Int) < (S.size : Int) ∧ (((S[1]'(by omega)).toNat : Int) == 48) = false) from by
    rcases Nat.eq_zero_or_pos j with h | h
    · left; rw [HSZ.out]; omega
    · right
      have := hdig 1 (by omega) (by omega)
      rw [this]
      rw [show j + 1 - 1 = j by omega]
      have hz := HSZ.out
      refine ⟨by omega, ?_⟩
      have hne : m / 10 ^ j % 10 ≠ 0 := by rcases hlead with h' | h' <;> omega
      generalize m / 10 ^ j % 10 = z at hne ⊢
      rw [beq_eq_false_iff_ne]
      omega) with hs2 | ⟨hs2, hs3⟩
  all_goals
    have HDIG : Hid (∀ p, 1 ≤ p → ∀ h : p < S.size, ((S[p]'h).toNat : Int) = 48 + ((m / 10 ^ (j + 1 - p) % 10 : Nat) : Int)) := hdig
    clear hlead hdig
    go_enter Try.func7, Try.ntmps7
    go_wp2_with (first
      | (go_at_call 18; refine (alive_any _).mono ?_; rintro e w1 ⟨rfl, hb⟩)
      | (go_at_call 21; refine (hdec _).mono ?_; rintro e w2 ⟨rfl, hb2⟩; have hb := below_any hb hb2))
    go_loop [5, 6] (fun mm i => ∃ p : Nat, 1 ≤ p ∧ p ≤ S.size ∧ i = .int .i64 p ∧ mm = .int .u64 ((m / 10 ^ (S.size - p) : Nat) : Int)) (fun _ i => S.size - (intOf i).toNat)
    case atStart => exact ⟨1, by omega, by omega, rfl, by rw [HSZ.out, show j + 2 - 1 = j + 1 by omega, HZ.out]; rfl⟩
    case round =>
      obtain ⟨p, hp1, hp2, rfl, rfl⟩ := hrel
      by_cases hlt : p < S.size
      · have hc := HDIG.out p hp1 hlt
        have hq := dstep m (j + 1 - p)
        rw [show j + 1 - p + 1 = S.size - p by have := HSZ.out; omega] at hq
        obtain ⟨q, hqd⟩ : ∃ q, q = m / 10 ^ (j + 1 - p) := ⟨_, rfl⟩
        rw [← hqd] at hc hq
        have hqm : q ≤ m := by rw [hqd]; exact Nat.div_le_self _ _
        obtain ⟨d, hd⟩ : ∃ d, d = q % 10 := ⟨_, rfl⟩
        rw [← hd] at hc
        obtain ⟨r, hr⟩ : ∃ r, r = m / 10 ^ (S.size - p) := ⟨_, rfl⟩
        rw [← hr] at hq ⊢
        have hd9 : d ≤ 9 := by omega
        have hrq : 10 * r + d = q := by omega
        have hrm : (10 : Int) * (r : Int) + (d : Int) ≤ 9223372036854775808 := by omega
        have hrm' : (10 : Int) * (r : Int) ≤ 9223372036854775808 := by omega
        have HQ : Hid (10 * r + d = q) := hrq
        have HQD : Hid (q = m / 10 ^ (j + 1 - p)) := hqd
        clear hrq hqd hq hd hr
        try clear hs3
        go_wp2
        go_round
        case rel =>
          refine ⟨p + 1, by omega, by omega, by go_num, ?_⟩
          have e1 : S.size - (p + 1) = j + 1 - p := by rw [HSZ.out]; omega
          rw [e1, ← HQD.out, ← HQ.out]
          go_num
        case measure => simp [intOf]; omega
      · have e1 : S.size - p = 0 := by omega
        rw [e1, Nat.pow_zero, Nat.div_one]
        clear e1
        go_wp2
        go_ret
        exact ⟨rfl, hb⟩

theorem neg_text (m : Nat) (hm : m ≠ 0) : (strOfNums (decimal (-(m : Int)))).toList = ((⟨#[45]⟩ : ByteArray) ++ strOfNums (decimal m)).toList := by
  have e1 : decimal (-(m : Int)) = 45 :: dec m := by unfold decimal; rw [if_pos (by omega)]; simp
  have e2 : decimal (m : Int) = dec m := by unfold decimal; rw [if_neg (by omega)]; simp
  rw [e1, e2, ByteArray.toList_eq, ByteArray.toList_eq, strOfNums_data]
  simp [strOfNums]

set_option maxHeartbeats 1000000 in
theorem walk_pos (m : Nat) (w : World) (hmu : m ≤ 9223372036854775807) :
    Calls Try.prog 7 #[.int .i64 m] w fun e w' => e = .returned (.bool true) ∧ Below w.heap.size w w' := by
  have hdec := fun n w h0 h1 => dec_any n w h0 h1
  obtain ⟨S, hS⟩ : ∃ S, S = strOfNums (decimal m) := ⟨_, rfl⟩
  obtain ⟨j, hsz, hz, hdig, hlead⟩ := pos_facts m S hS
  have hj : j ≤ 20 := by
    rcases hlead with h | h
    · omega
    · have := div_lt m j 19 (by omega) (by omega); omega
  have hdm := fun w => dec_any m w (by omega) (by omega)
  rw [← hS] at hdm
  have HZ : Hid (m / 10 ^ (j + 1) = 0) := hz
  have HSZ : Hid (S.size = j + 1) := hsz
  have hs1 : (0 : Int) < (S.size : Int) := by omega
  have hs0 : ¬ (S.size : Int) ≤ 0 := by omega
  have hp0 : 0 < S.size := by omega
  have hsm : S.size ≤ 30 := by omega
  have hse : ¬ S = ByteArray.empty := fun h => by rw [h] at hp0; exact absurd hp0 (by decide)
  have hnt : m ≠ 0 → ((strOfNums (decimal (-(m : Int)))).toList == ((⟨#[45]⟩ : ByteArray) ++ S).toList) = true := fun h => by rw [hS, neg_text m h]; exact beq_self_eq_true _
  clear hz hsz hj
  rcases (show (¬ (1 : Int) < (S.size : Int)) ∨ ((1 : Int) < (S.size : Int) ∧ (((S[0]'hp0).toNat : Int) == 48) = false) from by
    rcases Nat.eq_zero_or_pos j with h | h
    · left; rw [HSZ.out]; omega
    · right
      have := hdig 0 (by omega)
      rw [this]
      rw [show j - 0 = j by omega]
      have hz := HSZ.out
      refine ⟨by omega, ?_⟩
      have hne : m / 10 ^ j % 10 ≠ 0 := by rcases hlead with h' | h' <;> omega
      generalize m / 10 ^ j % 10 = z at hne ⊢
      rw [beq_eq_false_iff_ne]
      omega) with hs2 | ⟨hs2, hs3⟩
  all_goals
    have HDIG : Hid (∀ p, ∀ h : p < S.size, ((S[p]'h).toNat : Int) = 48 + ((m / 10 ^ (j - p) % 10 : Nat) : Int)) := hdig
    have HNT : Hid (m ≠ 0 → ((strOfNums (decimal (-(m : Int)))).toList == ((⟨#[45]⟩ : ByteArray) ++ S).toList) = true) := hnt
    clear hlead hdig hnt hS hdec
    go_enter Try.func7, Try.ntmps7
    go_wp2_with (first
      | (go_at_call 18; refine (alive_any _).mono ?_; rintro e w1 ⟨rfl, hb⟩)
      | (go_at_call 21; refine (hdm _).mono ?_; rintro e w2 ⟨rfl, hb2⟩; have hb := below_any hb hb2))
    go_loop [5, 6] (fun mm i => ∃ p : Nat, p ≤ S.size ∧ i = .int .i64 p ∧ mm = .int .u64 ((m / 10 ^ (S.size - p) : Nat) : Int)) (fun _ i => S.size - (intOf i).toNat)
    case atStart => exact ⟨0, by omega, rfl, by rw [HSZ.out, show j + 1 - 0 = j + 1 by omega, HZ.out]; rfl⟩
    case round =>
      obtain ⟨p, hp2, rfl, rfl⟩ := hrel
      by_cases hlt : p < S.size
      · have hc := HDIG.out p hlt
        have hq := dstep m (j - p)
        rw [show j - p + 1 = S.size - p by have := HSZ.out; omega] at hq
        obtain ⟨q, hqd⟩ : ∃ q, q = m / 10 ^ (j - p) := ⟨_, rfl⟩
        rw [← hqd] at hc hq
        have hqm : q ≤ m := by rw [hqd]; exact Nat.div_le_self _ _
        obtain ⟨d, hd⟩ : ∃ d, d = q % 10 := ⟨_, rfl⟩
        rw [← hd] at hc
        obtain ⟨r, hr⟩ : ∃ r, r = m / 10 ^ (S.size - p) := ⟨_, rfl⟩
        rw [← hr] at hq ⊢
        have hd9 : d ≤ 9 := by omega
        have hrq : 10 * r + d = q := by omega
        have hrm : (10 : Int) * (r : Int) + (d : Int) ≤ 9223372036854775808 := by omega
        have hrm' : (10 : Int) * (r : Int) ≤ 9223372036854775808 := by omega
        have HQ : Hid (10 * r + d = q) := hrq
        have HQD : Hid (q = m / 10 ^ (j - p)) := hqd
        clear hrq hqd hq hd hr
        try clear hs3
        go_wp2
        go_round
        case rel =>
          refine ⟨p + 1, by omega, by go_num, ?_⟩
          have e1 : S.size - (p + 1) = j - p := by rw [HSZ.out]; omega
          rw [e1, ← HQD.out, ← HQ.out]
          go_num
        case measure => simp [intOf]; omega
      · have e1 : S.size - p = 0 := by omega
        rw [e1, Nat.pow_zero, Nat.div_one]
        clear e1
        by_cases hm0 : m = 0
        · have hb0 : ((m : Int) == 0) = true := by simp [hm0]
          go_wp2
          go_ret
          exact ⟨rfl, hb⟩
        · have hb0 : ((m : Int) == 0) = false := by simp [hm0]
          obtain ⟨T, hT⟩ : ∃ T, T = strOfNums (decimal (-(m : Int))) := ⟨_, rfl⟩
          have HT : Hid (T.toList = ((⟨#[45]⟩ : ByteArray) ++ S).toList) := by
            have := HNT.out hm0
            rw [← hT] at this
            exact eq_of_beq this
          have HD : Hid (∀ w, Calls Try.prog 21 #[.int .i64 (-(m : Int))] w fun e w' => e = .returned (.string T) ∧ Below w.heap.size w w') := by
            rw [hT]; exact fun w => dec_any (-(m : Int)) w (by omega) (by omega)
          clear hdm hT
          go_wp2_with fail
          refine (HD.out _).mono ?_
          rintro e w3 ⟨rfl, hb3⟩
          have hb := below_any hb hb3
          go_wp2
          go_ret
          have hv : (T.toList == ((⟨#[45]⟩ : ByteArray) ++ S).toList) = true := by rw [HT.out]; exact beq_self_eq_true _
          exact ⟨congrArg (fun b => Ending.returned (.bool b)) hv, hb⟩

theorem walk (n : Int) (w : World) (h0 : -9223372036854775808 ≤ n) (h1 : n ≤ 9223372036854775807) :
    Calls Try.prog 7 #[.int .i64 n] w fun e w' => e = .returned (.bool true) ∧ Below w.heap.size w w' := by
  by_cases h : n < 0
  · exact walk_neg n w h0 h
  · obtain ⟨m, rfl⟩ := Int.eq_ofNat_of_zero_le (show 0 ≤ n by omega)
    exact walk_pos m w (by omega)

set_option maxRecDepth 100000 in
theorem lifted (os : Os) (started : os.Started) (H : Type) (enc : TypeId × Value → H) :
    ReturnsInHanded {} Try.checked os 7 .any (Rows.octetsDigitsSpec.pre6 enc Try.prog Try.f7 Rows.octetsDigitsRow.domain false) (Rows.octetsDigitsSpec.post enc Try.prog Try.f7 false true false false) := by
  refine returnsInHanded_of_change (C := Try.checked) own started (by kernel_rfl) Try.func7
    (ChangeSpec.witness6 (enc := enc) (C := Try.checked) false ⟨#[], #[.int .i64 0], []⟩ 8 (by kernel_rfl) (by kernel_rfl) (by kernel_rfl) (by kernel_rfl)) ?_
  intro W base args ds gs before hval0 hW hcnd _
  have hval : ∀ (j : Nat) t v, Try.f7.params[j]? = some t → args[j]? = some v → Value.okWide Try.prog W .any base t v := hval0
  have hW' := hW
  obtain ⟨p, q, hA0, hV, rfl, hfz, hnd⟩ := hW
  have hA : DataW.TrodAll enc Try.prog W 0 (fun _ => true) true Try.f7.params.toList args.toList ds p := hA0
  rw [Try.params7] at hA hval
  obtain ⟨v0, vs0, d0, ds0, p0, q0, hargs, rfl, rfl, h0, r0⟩ := trodAll_cons hA
  obtain ⟨rfl, rfl, rfl⟩ := trodAll_nil r0
  obtain rfl : args = #[v0] := by cases args; simp_all
  obtain ⟨rfl, rfl⟩ := trodVars_none hV
  obtain ⟨a0, rfl, rfl, rfl, w0⟩ := open_int Try.underlying3 (hval 0 3 v0 rfl rfl) h0
  clear hA0 hval0
  have b0 := bounds_i64 w0
  refine (walk a0 W b0.1 b0.2).mono fun e W' ⟨he, bel⟩ => ?_
  subst he
  exact ⟨_, rfl, _, _, _, [], [], [], hW', trodAll_mk1 (shut_bool Try.underlying4 _), (trodAll_cons_mk (shut_int Try.underlying3 w0) trodAll_mk0), rfl, bel.frame _, fun h => by cases h⟩

theorem over : Rows.octetsDigitsRow.holds Try.pinned (OpenSpec.ofChange Rows.octetsDigitsSpec) :=
  OpenClaim.holds_of_wide 7 Try.f7 rfl rfl rfl rfl rfl rfl rfl ⟨rfl, rfl, rfl, rfl, rfl⟩ rfl rfl rfl rfl rfl (by kernel_rfl) Try.func7 (by kernel_rfl)
    (of_decide_eq_true (by kernel_rfl)) (by unfold Func.isWrapper; first | (rw [if_pos (by decide +kernel)]; kernel_rfl) | (rw [if_neg (by decide +kernel)]; exact ⟨rfl, rfl⟩))
    (fun os started H enc _ => lifted os started H enc)

end Go.Proofs.Ytiinboedojjbkaa.octetsDigits

namespace Go.Proofs.Ytiinboedojjbkaa
theorem octetsDigits_holds : Rows.OctetsDigitsSaid := octetsDigits.over
#print axioms octetsDigits_holds
end Go.Proofs.Ytiinboedojjbkaa
