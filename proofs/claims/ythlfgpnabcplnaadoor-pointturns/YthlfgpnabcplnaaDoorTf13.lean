/-
  What octets.Get and the document's answer for it are: the number that octets say, or ErrBig; for every octets, in every memory, which stays. And what CopyBytes makes.
-/
import Derived.Test.YthlfgpnabcplnaaDoorTf9
import Derived.Test.YthlfgpnabcplnaaDoorTf3
import Derived.Laws.AppendOwnNone
import Derived.WalkSmall
namespace Go.Proofs.YthlfgpnabcplnaaDoor.W.O
open Go.RowKit

/-- Octets at an address: what the walks read. -/
def At (w : World) (b off : Nat) (l : List Int) : Prop := ∀ i, i < l.length → w.cell? ⟨b, off + i, none⟩ = some (.int .u8 (l.getD i 0))

set_option maxRecDepth 100000 in
set_option maxHeartbeats 400000 in
theorem wz_none (a : Option Addr) (cap : Nat) (w : World) :
    Calls Tryd.prog 39 #[.slice a 0 cap] w fun e w' => e = .returned (.slice a 0 cap) ∧ w = w' := by
  go_enter Tryd.func39, Tryd.ntmps39
  go_wp2
  refine wp_loop_rounds 1 ?_
  rw [rounds_succ]
  go_wp2
  go_ret
  exact ⟨rfl, rfl⟩

set_option maxRecDepth 100000 in
set_option maxHeartbeats 400000 in
theorem wz_some (b off n cap : Nat) (l : List Int) (hl : l.length = n) (w : World) (hm : n ≤ maxLen) (hcap : n ≤ cap) (hc : At w b off l) :
    Calls Tryd.prog 39 #[.slice (some ⟨b, off, none⟩) n cap] w fun e w' => (∃ ad z, e = .returned (.slice ad (n - z) (cap - z)) ∧ z ≤ n ∧ dz l = l.drop z ∧ (z < n → ad = some ⟨b, off + z, none⟩)) ∧ w = w' := by
  unfold maxLen at hm
  have HL : Hid (l.length = n) := hl
  have HC : Hid (At w b off l) := hc
  clear hl hc
  go_enter Tryd.func39, Tryd.ntmps39
  go_wp2
  go_loop [0] (fun v => ∃ z ad, v = .slice ad (n - z) (cap - z) ∧ z ≤ n ∧ (∀ i, i < z → l.getD i 0 = 0) ∧ (z < n → ad = some ⟨b, off + z, none⟩)) (fun v => match v with | .slice _ k _ => k | _ => 0)
  case atStart => exact ⟨0, _, rfl, Nat.zero_le _, fun i h => by omega, fun _ => rfl⟩
  case round =>
    obtain ⟨z, ad, rfl, hz, hzero, had⟩ := hrel
    by_cases hlt : z < n
    · obtain rfl := had hlt
      have hcell := HC.out z (by rw [HL.out]; exact hlt)
      obtain ⟨x, hx⟩ : ∃ x, x = l.getD z 0 := ⟨_, rfl⟩
      rw [← hx] at hcell
      obtain ⟨k, hk⟩ : ∃ k, k = n - z := ⟨_, rfl⟩
      obtain ⟨c, hcc⟩ : ∃ c, c = cap - z := ⟨_, rfl⟩
      rw [← hk, ← hcc]
      have hk0 : (0 : Int) < (k : Int) := by omega
      have hk1 : (1 : Int) ≤ (k : Int) := by omega
      have hkm : k ≤ 9223372036854775807 := by omega
      have HX : Hid (x = l.getD z 0) := hx
      have HK : Hid (k = n - z) := hk
      have HCC : Hid (c = cap - z) := hcc
      have HZ : Hid (∀ i, i < z → l.getD i 0 = 0) := hzero
      clear hx hk hcc hzero had
      by_cases hx0 : x = 0
      · have hxb : (x == 0) = true := by simp [hx0]
        go_wp2
        go_round
        case rel =>
          have e1 : k - 1 = n - (z + 1) := by have := HK.out; omega
          have e2 : c - 1 = cap - (z + 1) := by have := HCC.out; omega
          refine ⟨z + 1, _, by rw [e1, e2], by omega, fun i hi => ?_, fun h => ?_⟩
          · rcases Nat.lt_succ_iff_lt_or_eq.1 hi with g | g
            · exact HZ.out i g
            · rw [g, ← HX.out, hx0]
          · rw [if_neg (by have := HCC.out; omega)]; rfl
        case measure => simp; omega
      · have hxb : (x == 0) = false := by simp [hx0]
        go_wp2
        go_ret
        exact ⟨⟨_, z, by rw [← HK.out, ← HCC.out]; rfl, hz, dz_drop z l HZ.out (by rw [HL.out]; exact hz) (.inr (by rw [← HX.out]; exact hx0)), fun _ => rfl⟩, rfl⟩
    · go_wp2
      go_ret
      exact ⟨⟨_, z, rfl, hz, dz_drop z l hzero (by rw [HL.out]; exact hz) (.inl (by rw [HL.out]; omega)), had⟩, rfl⟩

set_option maxRecDepth 100000 in
set_option maxHeartbeats 400000 in
theorem get_none (a : Option Addr) (cap : Nat) (w : World) :
    Calls Tryd.prog 21 #[.slice a 0 cap] w fun e w' => e = .returned (.tuple #[.int .u64 0, .int .i64 0]) ∧ w = w' := by
  go_enter Tryd.func21, Tryd.ntmps21
  go_wp2_with (go_at_call 39; refine (wz_none _ _ _).mono ?_; rintro e w' ⟨rfl, rfl⟩)
  refine wp_loop_rounds 1 ?_
  rw [rounds_succ]
  go_wp2
  go_ret2
  exact ⟨rfl, rfl⟩

set_option maxRecDepth 100000 in
set_option maxHeartbeats 1000000 in
theorem get_some (b off n cap : Nat) (l : List Int) (hl : l.length = n) (w : World) (hm : n ≤ maxLen) (hcap : n ≤ cap) (hc : At w b off l) (hr : ∀ x ∈ l, 0 ≤ x ∧ x ≤ 255) :
    Calls Tryd.prog 21 #[.slice (some ⟨b, off, none⟩) n cap] w fun e w' => e = .returned (.tuple #[.int .u64 (gval l), .int .i64 (gerr l)]) ∧ w = w' := by
  have HW : Hid (Calls Tryd.prog 39 #[.slice (some ⟨b, off, none⟩) n cap] w fun e w' => (∃ ad z, e = .returned (.slice ad (n - z) (cap - z)) ∧ z ≤ n ∧ dz l = l.drop z ∧ (z < n → ad = some ⟨b, off + z, none⟩)) ∧ w = w') := wz_some b off n cap l hl w hm hcap hc
  unfold maxLen at hm
  have HL : Hid (l.length = n) := hl
  have HC : Hid (At w b off l) := hc
  have HR : Hid (∀ x ∈ l, 0 ≤ x ∧ x ≤ 255) := hr
  clear hl hc hr
  go_enter Tryd.func21, Tryd.ntmps21
  go_wp2_with fail
  refine HW.out.mono ?_
  rintro e w' ⟨⟨ad, z, rfl, hz, hdz, had⟩, rfl⟩
  obtain ⟨k, hk⟩ : ∃ k, k = n - z := ⟨_, rfl⟩
  obtain ⟨c, hcc⟩ : ∃ c, c = cap - z := ⟨_, rfl⟩
  rw [← hk, ← hcc]
  have hlen : (dz l).length = k := by rw [hdz, List.length_drop, HL.out, hk]
  have hkm : k ≤ 9223372036854775807 := by omega
  by_cases h8 : 8 < k
  · have h8i : (8 : Int) < (k : Int) := by omega
    have HE : Hid (gerr l = 107 ∧ gval l = 0) := by unfold gerr gval; rw [hlen, if_pos h8, if_pos h8]; exact ⟨rfl, rfl⟩
    clear hlen hdz had hk hcc HW
    go_wp2
    go_ret2
    exact ⟨by rw [HE.out.1, HE.out.2]; rfl, rfl⟩
  · have h8i : ¬ (8 : Int) < (k : Int) := by omega
    have HE : Hid (gerr l = 0 ∧ gval l = (nv (dz l) : Int)) := by unfold gerr gval; rw [hlen, if_neg h8, if_neg h8, nv_dz]; exact ⟨rfl, rfl⟩
    have HDL : Hid ((dz l).length = k) := hlen
    have HDR : Hid (∀ x ∈ dz l, 0 ≤ x ∧ x ≤ 255) := fun x hx => HR.out x (dz_sub l x hx)
    by_cases hk0 : k = 0
    · subst hk0
      have HN : Hid (nv (dz l) = 0) := by
        have : dz l = [] := List.eq_nil_of_length_eq_zero hlen
        show _ = _
        rw [this]; rfl
      clear hlen hdz had hk hcc HW
      go_wp2
      refine wp_loop_rounds 1 ?_
      rw [rounds_succ]
      go_wp2
      go_ret2
      exact ⟨by rw [HE.out.1, HE.out.2, HN.out]; rfl, rfl⟩
    · obtain rfl := had (by omega)
      have HCL : Hid (∀ i, i < k → w.cell? ⟨b, off + z + i, none⟩ = some (.int .u8 ((dz l).getD i 0))) := fun i hi => by
        have := HC.out (z + i) (by rw [HL.out]; omega)
        rw [hdz]
        simpa [Nat.add_assoc] using this
      clear hlen hdz had hk hcc HW
      go_wp2
      go_loop [4, 14] (fun x i => ∃ j : Nat, j ≤ k ∧ i = .int .i64 j ∧ x = .int .u64 ((nv ((dz l).take j) : Nat) : Int)) (fun _ i => k - (intOf i).toNat)
      case atStart => exact ⟨0, Nat.zero_le _, rfl, by simp [nv]⟩
      case round =>
        obtain ⟨j, hj, rfl, rfl⟩ := hrel
        by_cases hlt : j < k
        · have hcell := HCL.out j hlt
          have hs := nv_take_succ (dz l) j (by rw [HDL.out]; exact hlt)
          have hb1 := nv_lt ((dz l).take (j + 1)) fun x hx => HDR.out x (List.mem_of_mem_take hx)
          have hb2 : 256 ^ ((dz l).take (j + 1)).length ≤ 256 ^ 8 := Nat.pow_le_pow_right (by decide) (by rw [List.length_take]; omega)
          have hx := HDR.out ((dz l).getD j 0) (by
            have : j < (dz l).length := by rw [HDL.out]; exact hlt
            simp [List.getD, List.getElem?_eq_getElem this])
          obtain ⟨x, hxd⟩ : ∃ x, x = (dz l).getD j 0 := ⟨_, rfl⟩
          rw [← hxd] at hcell hs hx
          obtain ⟨y, rfl⟩ := Int.eq_ofNat_of_zero_le hx.1
          obtain ⟨m, hmd⟩ : ∃ m, m = nv ((dz l).take j) := ⟨_, rfl⟩
          rw [← hmd] at hs ⊢
          rw [Int.toNat_natCast] at hs
          have hmy : 256 * m + y < 18446744073709551616 := by
            rw [← hs]
            exact Nat.lt_of_lt_of_le hb1 (by simpa using hb2)
          have hor := or_256 m y (by omega) hmy
          have hm1 : (m : Int) * 256 ≤ 18446744073709551615 := by omega
          have hy1 : (y : Int) ≤ 255 := by omega
          have HS : Hid (nv ((dz l).take (j + 1)) = 256 * m + y) := hs
          clear hs hb1 hb2 hx hxd hmd hmy
          go_wp2
          go_round
          case rel => exact ⟨j + 1, by omega, by go_num, by rw [HS.out]; go_num⟩
          case measure => simp [intOf]; omega
        · have e : j = k := by omega
          have HT : Hid (nv ((dz l).take j) = nv (dz l)) := by
            show _ = _
            rw [List.take_of_length_le (by rw [HDL.out]; omega)]
          clear e
          go_wp2
          go_ret2
          exact ⟨by rw [HE.out.1, HE.out.2, ← HT.out]; rfl, rfl⟩


end Go.Proofs.YthlfgpnabcplnaaDoor.W.O
