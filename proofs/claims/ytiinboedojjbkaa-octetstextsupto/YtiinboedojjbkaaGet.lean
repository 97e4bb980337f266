/-
  What octets.Get and the document's answer for it are: the number that octets say, or ErrBig; for every octets, in every memory, which stays. And what CopyBytes makes.
-/
import Derived.Test.YtiinboedojjbkaaSame
import Derived.Test.YtiinboedojjbkaaPut
import Derived.Test.YtiinboedojjbkaaGetMath
import Derived.Laws.AppendOwnNone
import Derived.WalkSmall
namespace Go.Proofs.Ytiinboedojjbkaa
open Go.RowKit

/-- Octets at an address: what the walks read. -/
def At (w : World) (b off : Nat) (l : List Int) : Prop := ∀ i, i < l.length → w.cell? ⟨b, off + i, none⟩ = some (.int .u8 (l.getD i 0))

set_option maxHeartbeats 400000 in
theorem wz_none (a : Option Addr) (cap : Nat) (w : World) :
    Calls Try.prog 27 #[.slice a 0 cap] w fun e w' => e = .returned (.slice a 0 cap) ∧ w = w' := by
  go_enter Try.func27, Try.ntmps27
  go_wp2
  refine wp_loop_rounds 1 ?_
  rw [rounds_succ]
  go_wp2
  go_ret
  exact ⟨rfl, rfl⟩

set_option maxHeartbeats 400000 in
theorem wz_some (b off n cap : Nat) (l : List Int) (hl : l.length = n) (w : World) (hm : n ≤ maxLen) (hcap : n ≤ cap) (hc : At w b off l) :
    Calls Try.prog 27 #[.slice (some ⟨b, off, none⟩) n cap] w fun e w' => (∃ ad z, e = .returned (.slice ad (n - z) (cap - z)) ∧ z ≤ n ∧ dz l = l.drop z ∧ (z < n → ad = some ⟨b, off + z, none⟩)) ∧ w = w' := by
  unfold maxLen at hm
  have HL : Hid (l.length = n) := hl
  have HC : Hid (At w b off l) := hc
  clear hl hc
  go_enter Try.func27, Try.ntmps27
  go_wp2
  go_loop [0] (fun v => ∃ z ad, v = .slice ad (n - z) (cap - z) ∧ z ≤ n ∧ (∀ i, i < z → l.getD i 0 = 0) ∧ (z < n → ad = some ⟨b, off + z, none⟩)) (fun v => match v with | .slice _ k _ => k | _ => 0)
  case atStart => exact ⟨0, _, rfl, Nat.zero_le _, fun i h => by omega, fun _ => rfl⟩
  case round =>
    obtain ⟨z, ad, rfl, hz, hzero, had⟩ := hrel
    by_cases hlt : z < n
    · obtain rfl := had hlt
      have hcell := HC.out z (by rw [HL.out]; exact hlt)
      obtain ⟨x, hx⟩ : ∃ x, x = l.getD z 0 := ⟨_, rfl⟩
      rw [← hx] at hcell
      obtain ⟨k, hk⟩ : ∃ k, k = n - z := ⟨_, rfl⟩
      obtain ⟨c, hcc⟩ : ∃ c, c = cap - z := ⟨_, rfl⟩
      rw [← hk, ← hcc]
      have hk0 : (0 : Int) < (k : Int) := by omega
      have hk1 : (1 : Int) ≤ (k : Int) := by omega
      have hkm : k ≤ 9223372036854775807 := by omega
      have HX : Hid (x = l.getD z 0) := hx
      have HK : Hid (k = n - z) := hk
      have HCC : Hid (c = cap - z) := hcc
      have HZ : Hid (∀ i, i < z → l.getD i 0 = 0) := hzero
      clear hx hk hcc hzero had
      by_cases hx0 : x = 0
      · have hxb : (x == 0) = true := by simp [hx0]
        go_wp2
        go_round
        case rel =>
          have e1 : k - 1 = n - (z + 1) := by have := HK.out; omega
          have e2 : c - 1 = cap - (z + 1) := by have := HCC.out; omega
          refine ⟨z + 1, _, by rw [e1, e2], by omega, fun i hi => ?_, fun h => ?_⟩
          · rcases Nat.lt_succ_iff_lt_or_eq.1 hi with g | g
            · exact HZ.out i g
            · rw [g, ← HX.out, hx0]
          · rw [if_neg (by have := HCC.out; omega)]; rfl
        case measure => simp; omega
      · have hxb : (x == 0) = false := by simp [hx0]
        go_wp2
        go_ret
        exact ⟨⟨_, z, by rw [← HK.out, ← HCC.out]; rfl, hz, dz_drop z l HZ.out (by rw [HL.out]; exact hz) (.inr (by rw [← HX.out]; exact hx0)), fun _ => rfl⟩, rfl⟩
    · go_wp2
      go_ret
      exact ⟨⟨_, z, rfl, hz, dz_drop z l hzero (by rw [HL.out]; exact hz) (.inl (by rw [HL.out]; omega)), had⟩, rfl⟩

set_option maxHeartbeats 400000 in
theorem get_none (a : Option Addr) (cap : Nat) (w : World) :
    Calls Try.prog 12 #[.slice a 0 cap] w fun e w' => e = .returned (.tuple #[.int .u64 0, .int .i64 0]) ∧ w = w' := by
  go_enter Try.func12, Try.ntmps12
  go_wp2_with (go_at_call 27; refine (wz_none _ _ _).mono ?_; rintro e w' ⟨rfl, rfl⟩)
  refine wp_loop_rounds 1 ?_
  rw [rounds_succ]
  go_wp2
  go_ret2
  exact ⟨rfl, rfl⟩

set_option maxHeartbeats 1000000 in
theorem get_some (b off n cap : Nat) (l : List Int) (hl : l.length = n) (w : World) (hm : n ≤ maxLen) (hcap : n ≤ cap) (hc : At w b off l) (hr : ∀ x ∈ l, 0 ≤ x ∧ x ≤ 255) :
    Calls Try.prog 12 #[.slice (some ⟨b, off, none⟩) n cap] w fun e w' => e = .returned (.tuple #[.int .u64 (gval l), .int .i64 (gerr l)]) ∧ w = w' := by
  have HW : Hid (Calls Try.prog 27 #[.slice (some ⟨b, off, none⟩) n cap] w fun e w' => (∃ ad z, e = .returned (.slice ad (n - z) (cap - z)) ∧ z ≤ n ∧ dz l = l.drop z ∧ (z < n → ad = some ⟨b, off + z, none⟩)) ∧ w = w') := wz_some b off n cap l hl w hm hcap hc
  unfold maxLen at hm
  have HL : Hid (l.length = n) := hl
  have HC : Hid (At w b off l) := hc
  have HR : Hid (∀ x ∈ l, 0 ≤ x ∧ x ≤ 255) := hr
  clear hl hc hr
  go_enter Try.func12, Try.ntmps12
  go_wp2_with fail
  refine HW.out.mono ?_
  rintro e w' ⟨⟨ad, z, rfl, hz, hdz, had⟩, rfl⟩
  obtain ⟨k, hk⟩ : ∃ k, k = n - z := ⟨_, rfl⟩
  obtain ⟨c, hcc⟩ : ∃ c, c = cap - z := ⟨_, rfl⟩
  rw [← hk, ← hcc]
  have hlen : (dz l).length = k := by rw [hdz, List.length_drop, HL.out, hk]
  have hkm : k ≤ 9223372036854775807 := by omega
  by_cases h8 : 8 < k
  · have h8i : (8 : Int) < (k : Int) := by omega
    have HE : Hid (gerr l = 107 ∧ gval l = 0) := by unfold gerr gval; rw [hlen, if_pos h8, if_pos h8]; exact ⟨rfl, rfl⟩
    clear hlen hdz had hk hcc HW
    go_wp2
    go_ret2
    exact ⟨by rw [HE.out.1, HE.out.2]; rfl, rfl⟩
  · have h8i : ¬ (8 : Int) < (k : Int) := by omega
    have HE : Hid (gerr l = 0 ∧ gval l = (nv (dz l) : Int)) := by unfold gerr gval; rw [hlen, if_neg h8, if_neg h8, nv_dz]; exact ⟨rfl, rfl⟩
    have HDL : Hid ((dz l).length = k) := hlen
    have HDR : Hid (∀ x ∈ dz l, 0 ≤ x ∧ x ≤ 255) := fun x hx => HR.out x (dz_sub l x hx)
    by_cases hk0 : k = 0
    · subst hk0
      have HN : Hid (nv (dz l) = 0) := by
        have : dz l = [] := List.eq_nil_of_length_eq_zero hlen
        show _ = _
        rw [this]; rfl
      clear hlen hdz had hk hcc HW
      go_wp2
      refine wp_loop_rounds 1 ?_
      rw [rounds_succ]
      go_wp2
      go_ret2
      exact ⟨by rw [HE.out.1, HE.out.2, HN.out]; rfl, rfl⟩
    · obtain rfl := had (by omega)
      have HCL : Hid (∀ i, i < k → w.cell? ⟨b, off + z + i, none⟩ = some (.int .u8 ((dz l).getD i 0))) := fun i hi => by
        have := HC.out (z + i) (by rw [HL.out]; omega)
        rw [hdz]
        simpa [Nat.add_assoc] using this
      clear hlen hdz had hk hcc HW
      go_wp2
      go_loop [4, 14] (fun x i => ∃ j : Nat, j ≤ k ∧ i = .int .i64 j ∧ x = .int .u64 ((nv ((dz l).take j) : Nat) : Int)) (fun _ i => k - (intOf i).toNat)
      case atStart => exact ⟨0, Nat.zero_le _, rfl, by simp [nv]⟩
      case round =>
        obtain ⟨j, hj, rfl, rfl⟩ := hrel
        by_cases hlt : j < k
        · have hcell := HCL.out j hlt
          have hs := nv_take_succ (dz l) j (by rw [HDL.out]; exact hlt)
          have hb1 := nv_lt ((dz l).take (j + 1)) fun x hx => HDR.out x (List.mem_of_mem_take hx)
          have hb2 : 256 ^ ((dz l).take (j + 1)).length ≤ 256 ^ 8 := Nat.pow_le_pow_right (by decide) (by rw [List.length_take]; omega)
          have hx := HDR.out ((dz l).getD j 0) (by
            have : j < (dz l).length := by rw [HDL.out]; exact hlt
            simp [List.getD, List.getElem?_eq_getElem this])
          obtain ⟨x, hxd⟩ : ∃ x, x = (dz l).getD j 0 := ⟨_, rfl⟩
          rw [← hxd] at hcell hs hx
          obtain ⟨y, rfl⟩ := Int.eq_ofNat_of_zero_le hx.1
          obtain ⟨m, hmd⟩ : ∃ m, m = nv ((dz l).take j) := ⟨_, rfl⟩
          rw [← hmd] at hs ⊢
          rw [Int.toNat_natCast] at hs
          have hmy : 256 * m + y < 18446744073709551616 := by
            rw [← hs]
            exact Nat.lt_of_lt_of_le hb1 (by simpa using hb2)
          have hor := or_256 m y (by omega) hmy
          have hm1 : (m : Int) * 256 ≤ 18446744073709551615 := by omega
          have hy1 : (y : Int) ≤ 255 := by omega
          have HS : Hid (nv ((dz l).take (j + 1)) = 256 * m + y) := hs
          clear hs hb1 hb2 hx hxd hmd hmy
          go_wp2
          go_round
          case rel => exact ⟨j + 1, by omega, by go_num, by rw [HS.out]; go_num⟩
          case measure => simp [intOf]; omega
        · have e : j = k := by omega
          have HT : Hid (nv ((dz l).take j) = nv (dz l)) := by
            show _ = _
            rw [List.take_of_length_le (by rw [HDL.out]; omega)]
          clear e
          go_wp2
          go_ret2
          exact ⟨by rw [HE.out.1, HE.out.2, ← HT.out]; rfl, rfl⟩

set_option maxHeartbeats 400000 in
theorem num_none (a : Option Addr) (cap : Nat) (w : World) :
    Calls Try.prog 28 #[.slice a 0 cap] w fun e w' => e = .returned (.int .u64 0) ∧ w = w' := by
  go_enter Try.func28, Try.ntmps28
  go_wp2
  refine wp_loop_rounds 1 ?_
  rw [rounds_succ]
  go_wp2
  go_ret
  exact ⟨rfl, rfl⟩

set_option maxHeartbeats 1000000 in
theorem num_some (b off n cap : Nat) (l : List Int) (hl : l.length = n) (w : World) (hm : n ≤ maxLen) (hc : At w b off l) (hr : ∀ x ∈ l, 0 ≤ x ∧ x ≤ 255) (h8 : (dz l).length ≤ 8) :
    Calls Try.prog 28 #[.slice (some ⟨b, off, none⟩) n cap] w fun e w' => e = .returned (.int .u64 (nv l)) ∧ w = w' := by
  unfold maxLen at hm
  have hsm := nv_small l hr h8
  have HL : Hid (l.length = n) := hl
  have HC : Hid (At w b off l) := hc
  have HR : Hid (∀ x ∈ l, 0 ≤ x ∧ x ≤ 255) := hr
  clear hl hc hr h8
  go_enter Try.func28, Try.ntmps28
  go_wp2
  go_loop [3, 4] (fun x i => ∃ j : Nat, j ≤ n ∧ i = .int .i64 j ∧ x = .int .u64 ((nv (l.take j) : Nat) : Int)) (fun _ i => n - (intOf i).toNat)
  case atStart => exact ⟨0, Nat.zero_le _, rfl, by simp [nv]⟩
  case round =>
    obtain ⟨j, hj, rfl, rfl⟩ := hrel
    by_cases hlt : j < n
    · have hcell := HC.out j (by rw [HL.out]; exact hlt)
      have hs := nv_take_succ l j (by rw [HL.out]; exact hlt)
      have hb1 := nv_take_le l (j + 1)
      have hx := HR.out (l.getD j 0) (by
        have : j < l.length := by rw [HL.out]; exact hlt
        simp [List.getD, List.getElem?_eq_getElem this])
      obtain ⟨x, hxd⟩ : ∃ x, x = l.getD j 0 := ⟨_, rfl⟩
      rw [← hxd] at hcell hs hx
      obtain ⟨y, rfl⟩ := Int.eq_ofNat_of_zero_le hx.1
      obtain ⟨m, hmd⟩ : ∃ m, m = nv (l.take j) := ⟨_, rfl⟩
      rw [← hmd] at hs ⊢
      rw [Int.toNat_natCast] at hs
      have hmy : 256 * (m : Int) + (y : Int) ≤ 18446744073709551615 := by omega
      have hm1 : 256 * (m : Int) ≤ 18446744073709551615 := by omega
      have hy1 : (y : Int) ≤ 255 := by omega
      have HS : Hid (nv (l.take (j + 1)) = 256 * m + y) := hs
      clear hs hb1 hx hxd hmd hsm
      go_wp2
      go_round
      case rel => exact ⟨j + 1, by omega, by go_num, by rw [HS.out]; go_num⟩
      case measure => simp [intOf]; omega
    · have HT : Hid (nv (l.take j) = nv l) := by
        show _ = _
        rw [List.take_of_length_le (by rw [HL.out]; omega)]
      go_wp2
      go_ret
      exact ⟨by rw [← HT.out]; rfl, rfl⟩

set_option maxHeartbeats 400000 in
theorem rget_none (a : Option Addr) (cap : Nat) (w : World) :
    Calls Try.prog 13 #[.slice a 0 cap] w fun e w' => e = .returned (.tuple #[.int .u64 0, .int .i64 0]) ∧ w = w' := by
  go_enter Try.func13, Try.ntmps13
  go_wp2
  refine wp_loop_rounds 1 ?_
  rw [rounds_succ]
  go_wp2_with (go_at_call 28; refine (num_none _ _ _).mono ?_; rintro e w' ⟨rfl, rfl⟩)
  go_ret2
  exact ⟨rfl, rfl⟩

set_option maxHeartbeats 1000000 in
theorem rget_some (b off n cap : Nat) (l : List Int) (hl : l.length = n) (w : World) (hm : n ≤ maxLen) (hc : At w b off l) (hr : ∀ x ∈ l, 0 ≤ x ∧ x ≤ 255) :
    Calls Try.prog 13 #[.slice (some ⟨b, off, none⟩) n cap] w fun e w' => e = .returned (.tuple #[.int .u64 (gval l), .int .i64 (gerr l)]) ∧ w = w' := by
  have HN : Hid ((dz l).length ≤ 8 → Calls Try.prog 28 #[.slice (some ⟨b, off, none⟩) n cap] w fun e w' => e = .returned (.int .u64 (nv l)) ∧ w = w') := num_some b off n cap l hl w hm hc hr
  unfold maxLen at hm
  have HL : Hid (l.length = n) := hl
  have HC : Hid (At w b off l) := hc
  clear hl hc hr
  go_enter Try.func13, Try.ntmps13
  go_wp2
  go_loop [4] (fun i => ∃ z : Nat, z ≤ n ∧ i = .int .i64 z ∧ (∀ i, i < z → l.getD i 0 = 0)) (fun i => n - (intOf i).toNat)
  case atStart => exact ⟨0, Nat.zero_le _, rfl, fun i h => by omega⟩
  case round =>
    obtain ⟨z, hz, rfl, hzero⟩ := hrel
    have HZ : Hid (∀ i, i < z → l.getD i 0 = 0) := hzero
    clear hzero
    rcases (show (z < n ∧ l.getD z 0 = 0) ∨ (dz l = l.drop z ∧ (z = n ∨ (z < n ∧ l.getD z 0 ≠ 0))) from by
      by_cases h1 : z < n
      · by_cases h2 : l.getD z 0 = 0
        · exact .inl ⟨h1, h2⟩
        · exact .inr ⟨dz_drop z l HZ.out (by rw [HL.out]; exact hz) (.inr h2), .inr ⟨h1, h2⟩⟩
      · exact .inr ⟨dz_drop z l HZ.out (by rw [HL.out]; exact hz) (.inl (by rw [HL.out]; omega)), .inl (by omega)⟩) with ⟨hlt, hx⟩ | ⟨hdz, hor⟩
    · have hcell := HC.out z (by rw [HL.out]; exact hlt)
      rw [hx] at hcell
      have HX : Hid (l.getD z 0 = 0) := hx
      clear hx
      go_wp2
      go_round
      case rel =>
        refine ⟨z + 1, by omega, by go_num, fun i hi => ?_⟩
        rcases Nat.lt_succ_iff_lt_or_eq.1 hi with g | g
        · exact HZ.out i g
        · rw [g, HX.out]
      case measure => simp [intOf]; omega
    · have hlen : (dz l).length = n - z := by rw [hdz, List.length_drop, HL.out]
      have HE : Hid (if 8 < n - z then gerr l = 107 ∧ gval l = 0 else gerr l = 0 ∧ gval l = (nv l : Int)) := by
        show if 8 < n - z then _ else _
        unfold gerr gval
        rw [hlen]
        split <;> exact ⟨rfl, rfl⟩
      have HD : Hid ((dz l).length = n - z) := hlen
      clear hdz hlen
      by_cases h8 : 8 < n - z
      · have h8i : (8 : Int) < (n : Int) - (z : Int) := by omega
        have he := HE.out
        rw [if_pos h8] at he
        rcases hor with rfl | ⟨hlt, hx⟩
        · omega
        · have hcell := HC.out z (by rw [HL.out]; exact hlt)
          obtain ⟨x, hxd⟩ : ∃ x, x = l.getD z 0 := ⟨_, rfl⟩
          rw [← hxd] at hcell hx
          have hxb : (x == 0) = false := by simp [hx]
          clear hxd hx HE
          have HE2 : Hid (gerr l = 107 ∧ gval l = 0) := he
          clear he
          go_wp2
          go_ret2
          exact ⟨by rw [HE2.out.1, HE2.out.2]; rfl, rfl⟩
      · have h8i : ¬ (8 : Int) < (n : Int) - (z : Int) := by omega
        have he := HE.out
        rw [if_neg h8] at he
        have HE2 : Hid (gerr l = 0 ∧ gval l = (nv l : Int)) := he
        have HN2 : Hid (Calls Try.prog 28 #[.slice (some ⟨b, off, none⟩) n cap] w fun e w' => e = .returned (.int .u64 (nv l)) ∧ w = w') := HN.out (by rw [HD.out]; omega)
        clear he HE
        rcases hor with rfl | ⟨hlt, hx⟩
        · go_wp2_with (go_at_call 28; refine HN2.out.mono ?_; rintro e w' ⟨rfl, rfl⟩)
          go_ret2
          exact ⟨by rw [HE2.out.1, HE2.out.2]; rfl, rfl⟩
        · have hcell := HC.out z (by rw [HL.out]; exact hlt)
          obtain ⟨x, hxd⟩ : ∃ x, x = l.getD z 0 := ⟨_, rfl⟩
          rw [← hxd] at hcell hx
          have hxb : (x == 0) = false := by simp [hx]
          clear hxd hx
          go_wp2_with (go_at_call 28; refine HN2.out.mono ?_; rintro e w' ⟨rfl, rfl⟩)
          go_ret2
          exact ⟨by rw [HE2.out.1, HE2.out.2]; rfl, rfl⟩

theorem add_plain (b off i : Nat) : (⟨b, off, none⟩ : Addr).add i = ⟨b, off + i, none⟩ := by unfold Addr.add; split <;> simp_all

/-- A slice that came in, or one that the call made: nil, or at an address. -/
def Arg (w : World) (v : Value) (l : List Int) : Prop :=
  (v = .slice none 0 0 ∧ l = []) ∨ ∃ x cap, v = .slice (some x) l.length cap ∧ l.length ≤ cap ∧ l.length ≤ maxLen ∧ (∀ i, i < l.length → w.cell? (x.add i) = some (.int .u8 (l.getD i 0))) ∧ ∀ y ∈ l, 0 ≤ y ∧ y ≤ 255

theorem Arg.bytes {w : World} {v : Value} {l : List Int} (h : Arg w v l) : Bytes w v l := by
  rcases h with ⟨rfl, rfl⟩ | ⟨x, cap, rfl, _, hm, hc, hr⟩
  · exact ⟨⟨none, 0, rfl, fun h => absurd rfl h⟩, by simp [maxLen], by simp⟩
  · refine ⟨⟨some x, cap, rfl, fun h0 => ?_⟩, hm, hr⟩
    obtain ⟨b, off, spot⟩ := x
    have h1 := hc 0 (by omega)
    have hspot : spot = none := by simpa [Addr.add] using World.cell?_spot h1
    subst hspot
    exact ⟨b, off, rfl, fun i hi => by rw [← add_plain]; exact hc i hi⟩

/-- The slice as the two ways of each walk want it. -/
theorem Arg.split {w : World} {v : Value} {l : List Int} (h : Arg w v l) : (l = [] ∧ ∃ a cap, v = .slice a 0 cap) ∨ (∃ b off cap, v = .slice (some ⟨b, off, none⟩) l.length cap ∧ l.length ≤ cap ∧ l.length ≤ maxLen ∧ At w b off l ∧ ∀ y ∈ l, 0 ≤ y ∧ y ≤ 255) := by
  rcases h with ⟨rfl, rfl⟩ | ⟨x, cap, rfl, hcap, hm, hc, hr⟩
  · exact .inl ⟨rfl, none, 0, rfl⟩
  · by_cases h0 : l.length = 0
    · left
      exact ⟨List.eq_nil_of_length_eq_zero h0, some x, cap, by rw [h0]⟩
    · right
      obtain ⟨b, off, spot⟩ := x
      have h1 := hc 0 (by omega)
      have hspot : spot = none := by simpa [Addr.add] using World.cell?_spot h1
      subst hspot
      exact ⟨b, off, cap, rfl, hcap, hm, fun i hi => by rw [← add_plain]; exact hc i hi, hr⟩

theorem get_any (v : Value) (l : List Int) (w : World) (h : Arg w v l) :
    Calls Try.prog 12 #[v] w fun e w' => e = .returned (.tuple #[.int .u64 (gval l), .int .i64 (gerr l)]) ∧ w = w' := by
  rcases h.split with ⟨rfl, a, cap, rfl⟩ | ⟨b, off, cap, rfl, hcap, hm, hc, hr⟩
  · exact get_none a cap w
  · exact get_some b off l.length cap l rfl w hm hcap hc hr

theorem rget_any (v : Value) (l : List Int) (w : World) (h : Arg w v l) :
    Calls Try.prog 13 #[v] w fun e w' => e = .returned (.tuple #[.int .u64 (gval l), .int .i64 (gerr l)]) ∧ w = w' := by
  rcases h.split with ⟨rfl, a, cap, rfl⟩ | ⟨b, off, cap, rfl, hcap, hm, hc, hr⟩
  · exact rget_none a cap w
  · exact rget_some b off l.length cap l rfl w hm hc hr

theorem Arg.own {w : World} {base : Nat} {v : Value} {l : List Int} (h : w.ownsRow base 5 1 v l.length (l.map (Value.int .u8))) (hr : ∀ x ∈ l, 0 ≤ x ∧ x ≤ 255) : Arg w v l := by
  have h0 := h
  rcases h.2 with ⟨hv, hn⟩ | ⟨g, cap, cur, hv, hg, hh, h1, h2, h3, h4⟩
  · exact .inl ⟨hv, List.eq_nil_of_length_eq_zero hn⟩
  · subst hv
    refine .inr ⟨_, cap, rfl, h1, by omega, fun i hi => ?_, hr⟩
    have := h0.cellAt i (by omega)
    rw [add_plain, Nat.zero_add, this, List.getElem?_map, List.getElem?_eq_getElem hi]
    simp [List.getElem?_eq_getElem hi]

theorem Arg.below {w w' : World} {v : Value} {l : List Int} (h : Arg w v l) (hb : Below w.heap.size w w') : Arg w' v l := by
  rcases h with h | ⟨x, cap, hv, hcap, hm, hc, hr⟩
  · exact .inl h
  · refine .inr ⟨x, cap, hv, hcap, hm, fun i hi => ?_, hr⟩
    have := hc i hi
    have hlt := cell_lt this
    rw [hb.cell hlt]
    exact this

set_option maxHeartbeats 400000 in
theorem copy_any (v : Value) (l : List Int) (w : World) (h : Arg w v l) (hs : l.length ≤ 140737488355328) :
    Calls Try.prog 9 #[v] w fun e w' => (∃ v', e = .returned v' ∧ w'.ownsRow w.heap.size 5 1 v' l.length (l.map (Value.int .u8))) ∧ Below w.heap.size w w' := by
  obtain ⟨i0, hi, hz0, hz1, hz2⟩ := info_parts Try.info5
  rcases h with ⟨rfl, rfl⟩ | ⟨x, cap, rfl, hcap, hm, hc, hr⟩
  · go_enter Try.func9, Try.ntmps9
    go_wp2_with (at_builtin; refine wpList_append_own_none rfl _ _ 23 rfl w.heap.size 5 i0 1 Try.underlying23 hi (.slice none 0 0) 0 [] rfl (World.ownsRow_nil _ _ _ _) rfl ?_)
    go_ret
    exact ⟨⟨_, rfl, World.ownsRow_nil _ _ _ _⟩, Below.refl _ _⟩
  · have hnews : ∀ j u, (l.map (Value.int .u8))[j]? = some u → w.cell? (x.add j) = some u := fun j u hj => by
      have hjl : j < l.length := by
        rcases Nat.lt_or_ge j l.length with c | c
        · exact c
        · rw [List.getElem?_eq_none (by simpa using c)] at hj; cases hj
      rw [hc j hjl]
      rw [List.getElem?_map, List.getElem?_eq_getElem hjl] at hj
      simpa [List.getElem?_eq_getElem hjl] using hj
    have hone : ∀ u ∈ l.map (Value.int .u8), u.oneCell' = true := fun u hu => by
      obtain ⟨y, _, rfl⟩ := List.mem_map.1 hu
      rfl
    clear hc hr
    go_enter Try.func9, Try.ntmps9
    go_wp2_with (at_builtin; refine wpList_append_own _ rfl _ _ 23 rfl w.heap.size 5 i0 (.int .u8 0) 1 1 Try.underlying23 hi hz0 hz1 hz2 rfl (by decide) (.slice none 0 0) 0 [] rfl (World.ownsRow_nil _ _ _ _) x l.length cap (l.map (Value.int .u8)) rfl (by simp) hnews hone (by omega) (by omega) (Nat.le_refl _) ?_)
    intro v' w1 hown hgrow _
    have hb : Below w.heap.size w w1 := (Below.refl _ _).grown hgrow (Nat.le_refl _) (fun _ h => by cases h)
    clear hgrow hnews hone
    go_wp2
    go_ret
    exact ⟨⟨v', rfl, hown⟩, hb⟩

end Go.Proofs.Ytiinboedojjbkaa
