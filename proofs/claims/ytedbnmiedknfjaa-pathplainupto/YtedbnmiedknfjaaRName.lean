/-
  What the document's answer for Name is, for every text.
-/
import Derived.Test.YtedbnmiedknfjaaName
namespace Go.Proofs.Ytedbnmiedknfjaa
open Go.RowKit

theorem u8_eq (x : UInt8) (n : Nat) (hn : n < 256) : ((x.toNat : Int) == (n : Int)) = (x == UInt8.ofNat n) := by
  rw [Bool.eq_iff_iff]
  simp only [beq_iff_eq]
  constructor
  · intro h
    apply UInt8.toNat_inj.1
    simp
    omega
  · intro h
    subst h
    simp
    omega

set_option maxRecDepth 100000 in
set_option maxHeartbeats 2000000 in
theorem rname_any (s : ByteArray) (w : World) : Calls Try.prog 24 #[.string s] w fun e w' => e = .returned (.int .i64 (nerr s)) ∧ w = w' := by
  by_cases h0 : s.size = 0
  · have he : nerr s = 106 := by simp [nerr, nameOk, h0]
    have hi0 : (s.size : Int) < 1 := by omega
    rw [he]
    clear he
    go_enter Try.func24, Try.ntmps24
    go_wp2
    go_ret
    exact ⟨rfl, rfl⟩
  have hi0 : ¬ (s.size : Int) < 1 := by omega
  by_cases h1 : 16 < s.size
  · have he : nerr s = 106 := by simp [nerr, nameOk, show ¬ s.size ≤ 16 by omega]
    have h1i : (16 : Int) < (s.size : Int) := by omega
    rw [he]
    clear he
    go_enter Try.func24, Try.ntmps24
    go_wp2
    go_ret
    exact ⟨rfl, rfl⟩
  have h1i : ¬ (16 : Int) < (s.size : Int) := by omega
  cases hd : s.toList == [46]
  case true =>
    have he : nerr s = 106 := by simp [nerr, nameOk, hd]
    rw [he]
    clear he
    go_enter Try.func24, Try.ntmps24
    go_wp2
    go_ret
    exact ⟨rfl, rfl⟩
  cases hdd : s.toList == [46, 46]
  case true =>
    have he : nerr s = 106 := by simp [nerr, nameOk, hdd]
    rw [he]
    clear he
    go_enter Try.func24, Try.ntmps24
    go_wp2
    go_ret
    exact ⟨rfl, rfl⟩
  have HE : Hid (nerr s = if Lib.containsAny s.data.toList two = true then 106 else 0) := by
    show _ = _
    cases hc : Lib.containsAny s.data.toList two <;> simp [nerr, nameOk, hc, hd, hdd, show s.size ≤ 16 by omega, show 1 ≤ s.size by omega]
  go_enter Try.func24, Try.ntmps24
  go_wp2
  clear hd hdd
  go_loopw [3] (fun i wr => ∃ k : Nat, k ≤ s.size ∧ i = .int .i64 k ∧ wr = w ∧ Hid (Lib.NoAny s.data.toList two k)) (fun i _ => s.size - (intOf i).toNat)
  case atStart => exact ⟨0, Nat.zero_le _, rfl, rfl, Lib.NoAny.zero _ _⟩
  case round =>
    obtain ⟨k, hk, rfl, rfl, HN⟩ := hrel
    by_cases hlt : k < s.size
    · have hkn : (k : Int) < (s.size : Int) := by omega
      obtain ⟨x, hx⟩ : ∃ x : UInt8, s[k]'hlt = x := ⟨_, rfl⟩
      have Hx : Hid (s.data.toList[k]? = some x) := by
        show _ = _
        rw [← hx]; exact Lib.data_getElem? s k hlt
      have q0 := u8_eq x 0 (by decide)
      have q1 := u8_eq x 47 (by decide)
      simp only [Int.cast_ofNat_Int] at q0 q1
      by_cases c0 : x = 0
      · have HI : Hid (Lib.containsAny s.data.toList two = true) := by
          show _ = _
          unfold Lib.containsAny
          rw [Lib.indexAny_hit HN.out Hx.out (by rw [c0]; decide)]
          simp
        have b0 : ((x.toNat : Int) == 0) = true := by rw [show (0 : Int) = ((0 : Nat) : Int) from rfl, u8_eq x 0 (by decide), c0]; rfl
        clear q0 q1 c0
        go_wp2
        go_ret
        exact ⟨by rw [HE.out, if_pos HI.out]; rfl, rfl⟩
      · have b0 : ((x.toNat : Int) == 0) = false := by rw [show (0 : Int) = ((0 : Nat) : Int) from rfl, u8_eq x 0 (by decide)]; simpa using c0
        by_cases c1 : x = 47
        · have HI : Hid (Lib.containsAny s.data.toList two = true) := by
            show _ = _
            unfold Lib.containsAny
            rw [Lib.indexAny_hit HN.out Hx.out (by rw [c1]; decide)]
            simp
          have b1 : ((x.toNat : Int) == 47) = true := by rw [show (47 : Int) = ((47 : Nat) : Int) from rfl, u8_eq x 47 (by decide), c1]; rfl
          clear q0 q1 c0 c1
          go_wp2
          go_ret
          exact ⟨by rw [HE.out, if_pos HI.out]; rfl, rfl⟩
        · have b1 : ((x.toNat : Int) == 47) = false := by rw [show (47 : Int) = ((47 : Nat) : Int) from rfl, u8_eq x 47 (by decide)]; simpa using c1
          have HI : Hid (two.contains x = false) := by
            show _ = _
            simp [two, c0, c1]
          clear q0 q1 c0 c1
          go_wp2
          go_roundw
          case rel => exact ⟨k + 1, by omega, by go_num, by first | rfl | trivial, HN.out.succ Hx.out HI.out⟩
          case measure => simp [intOf]; omega
    · obtain rfl : k = s.size := by omega
      have HI : Hid (¬ Lib.containsAny s.data.toList two = true) := by
        show ¬ _
        unfold Lib.containsAny
        rw [Lib.indexAny_none (by rw [← Lib.size_eq]; exact HN.out)]
        decide
      go_wp2
      go_ret
      exact ⟨by rw [HE.out, if_neg HI.out]; rfl, rfl⟩

end Go.Proofs.Ytedbnmiedknfjaa
