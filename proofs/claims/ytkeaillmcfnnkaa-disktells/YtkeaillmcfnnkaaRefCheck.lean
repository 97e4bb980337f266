/-
  What the document's Check answers: 0 where the state may be, else 9.
-/
import Derived.Test.YtkeaillmcfnnkaaCheck
namespace Go.Proofs.Ytkeaillmcfnnkaa
open Go.RowKit

set_option maxRecDepth 100000 in
set_option maxHeartbeats 4000000 in
theorem rcheck_any (n0 : Nat) (v : Value) (S : St) (w : World) (h : Disk n0 w v S) :
    Calls Try.prog 23 #[v] w fun e w' => e = .returned (.int .i64 (cerr S)) ∧ Below w.heap.size w w' := by
  obtain ⟨a1, c1, a2, c2, rfl, hL, hW⟩ := h.shape
  obtain ⟨i0, hi0, _, hz, _⟩ := info_parts Try.info60
  obtain ⟨_, _, _, _, hm1, _⟩ := hL.shape
  obtain ⟨_, _, _, _, hm2, _⟩ := hW.shape
  have HL : Hid (Lists n0 w (.slice a1 S.secs.length c1) S.secs) := hL
  have HW : Hid (Writes n0 w (.slice a2 S.cache.length c2) S.cache) := hW
  obtain ⟨n, hn⟩ : ∃ n, n = S.secs.length := ⟨_, rfl⟩
  obtain ⟨m, hm⟩ : ∃ n, n = S.cache.length := ⟨_, rfl⟩
  have HN : Hid (n = S.secs.length) := hn
  have HM : Hid (m = S.cache.length) := hm
  have HC : Hid (cerr S = if (decide (1 ≤ n) && decide (n ≤ 2048) && decide (m ≤ 4096) && S.secs.all okSec && S.cache.all (okWrite n)) = true then 0 else 9) := by
    show _ = _
    rw [hn, hm]; rfl
  rw [← hn] at HL hm1 ⊢
  rw [← hm] at HW hm2 ⊢
  obtain ⟨ce, hce⟩ : ∃ x, x = cerr S := ⟨_, rfl⟩
  rw [← hce] at HC ⊢
  clear h hL hW hn hm hce
  unfold maxLen at hm1 hm2
  have hl1 := run_len Try.underlying22 a1 n c1
  have hl2 := run_len Try.underlying23 a2 m c2
  have HB : Hid (Below w.heap.size w (w.alloc (.cells #[.slice a1 n c1, .slice a2 m c2] 25))) := (Below.refl _ w).alloc (Nat.le_refl _) _
  by_cases g1 : (n : Int) < 1
  · have hc : ce = 9 := by rw [HC.out]; simp; omega
    subst hc
    go_enter Try.func23, Try.ntmps23
    go_wp2
    go_ret
    exact ⟨rfl, HB.out⟩
  by_cases g2 : (n : Int) ≤ 2048
  case neg =>
    have hc : ce = 9 := by rw [HC.out]; simp; omega
    subst hc
    go_enter Try.func23, Try.ntmps23
    go_wp2
    go_ret
    exact ⟨rfl, HB.out⟩
  by_cases g3 : (m : Int) ≤ 4096
  case neg =>
    have hc : ce = 9 := by rw [HC.out]; simp; omega
    subst hc
    go_enter Try.func23, Try.ntmps23
    go_wp2
    go_ret
    exact ⟨rfl, HB.out⟩
  go_enter Try.func23, Try.ntmps23
  go_wp2
  go_loopw [3] (fun i wr => ∃ k : Nat, k ≤ n ∧ i = .int .i64 k ∧ Hid ((S.secs.take k).all okSec = true) ∧ wr = w.alloc (.cells #[.slice a1 n c1, .slice a2 m c2] 25)) (fun i _ => n - (intOf i).toNat)
  case atStart => exact ⟨0, Nat.zero_le _, rfl, by show _ = _; simp, rfl⟩
  case round =>
    obtain ⟨k, hk, rfl, HK, rfl⟩ := hrel
    by_cases hlt : k < n
    · obtain ⟨l, hl⟩ := get_lt (l := S.secs) (k := k) (by rw [← HN.out]; exact hlt)
      obtain ⟨b, o, a, cap, hix, _, hc, _⟩ := (HL.out.below HB.out).at k l hl
      have HX : Hid (S.secs[k]? = some l) := hl
      obtain ⟨len, hlen⟩ : ∃ x, x = l.length := ⟨_, rfl⟩
      have hll := run_len Try.underlying26 a len cap
      rw [← hlen] at hc
      have HE : Hid (len = l.length) := hlen
      clear hl hlen
      have hki : (k : Int) < (n : Int) := by omega
      by_cases h64 : (len : Int) = 64
      · go_wp2
        go_roundw
        case rel => exact ⟨k + 1, by omega, by go_num, take_step HK.out HX.out (by have := HE.out; simp [okSec]; omega), trivial⟩
        case measure => simp [intOf]; omega
      · have hc9 : ce = 9 := by
          rw [HC.out, all_not HX.out (by have := HE.out; simp [okSec]; omega)]; simp
        subst hc9
        go_wp2
        go_ret
        exact ⟨rfl, HB.out⟩
    · obtain rfl : k = n := by omega
      have HA : Hid (S.secs.all okSec = true) := take_all (by rw [← HN.out]; exact HK.out)
      have hce : ce = if S.cache.all (okWrite k) = true then 0 else 9 := by
        rw [HC.out, HA.out]
        have e1 : decide (1 ≤ k) = true := decide_eq_true (by omega)
        have e2 : decide (k ≤ 2048) = true := decide_eq_true (by omega)
        have e3 : decide (m ≤ 4096) = true := decide_eq_true (by omega)
        rw [e1, e2, e3, Bool.true_and, Bool.true_and, Bool.true_and, Bool.true_and]
      have HCE : Hid (ce = if S.cache.all (okWrite k) = true then 0 else 9) := hce
      clear HK HC HA hce hlt HL
      go_wp2
      obtain ⟨w1, hw1⟩ : ∃ w1, w1 = w.alloc (.cells #[.slice a1 k c1, .slice a2 m c2] 25) := ⟨_, rfl⟩
      have hb1 : w1.cell? ⟨w.heap.size, 0, none⟩ = some (.slice a1 k c1) := by rw [hw1]; simp
      have hb2 : w1.cell? ⟨w.heap.size, 1, none⟩ = some (.slice a2 m c2) := by rw [hw1]; simp
      have HS : Hid (w1.heap.size = w.heap.size + 1) := by show _ = _; rw [hw1]; simp
      rw [← hw1] at HB ⊢
      have HW1 : Hid (Writes n0 w1 (.slice a2 m c2) S.cache) := HW.out.below HB.out
      clear hw1 HW
      go_loopw [4] (fun i wr => ∃ j : Nat, j ≤ m ∧ i = .int .i64 j ∧ Hid ((S.cache.take j).all (okWrite k) = true) ∧ Below w1.heap.size w1 wr) (fun i _ => m - (intOf i).toNat)
      case atStart => exact ⟨0, Nat.zero_le _, rfl, by show _ = _; simp, Below.refl _ _⟩
      case round =>
        obtain ⟨j, hj, rfl, HK, hbel⟩ := hrel
        by_cases hlt : j < m
        · obtain ⟨q, hq⟩ := get_lt (l := S.cache) (k := j) (by rw [← HM.out]; exact hlt)
          obtain ⟨b, o, a, cap, hix, _, hc0, hc1, _, hr⟩ := (HW1.out.below hbel).at Try.underlying23 hi0 hz j q hq
          have HX : Hid (S.cache[j]? = some q) := hq
          obtain ⟨s, l⟩ := q
          simp only at hc0 hc1 hr
          obtain ⟨len, hlen⟩ : ∃ x, x = l.length := ⟨_, rfl⟩
          have hll := run_len Try.underlying26 a len cap
          rw [← hlen] at hc1
          have HE : Hid (len = l.length) := hlen
          have hd1 : wr.cell? ⟨w.heap.size, 0, none⟩ = some (.slice a1 k c1) := by rw [hbel.cell (cell_lt hb1)]; exact hb1
          have hd2 : wr.cell? ⟨w.heap.size, 1, none⟩ = some (.slice a2 m c2) := by rw [hbel.cell (cell_lt hb2)]; exact hb2
          have hsz : w.heap.size < wr.heap.size := cell_lt hd1
          have hsb : b < wr.heap.size := cell_lt hc0
          have HBE : Hid (Below w1.heap.size w1 wr) := hbel
          have HR := okWrite_reach k (s, l)
          have HRR : Hid (okWrite k (s, l) = (reach k s 1 && (l.length == 64))) := HR
          clear hq hlen hb1 hb2 hbel HR
          have hki : (j : Int) < (m : Int) := by omega
          have HB3 : Hid (Below w1.heap.size w1 (wr.alloc (.cells #[.int .i64 s, .slice a len cap] 60))) := HBE.out.alloc HBE.out.size _
          have HOW : Hid (okWrite k (s, l) = (decide (0 ≤ s) && decide (s < (k : Int)) && (l.length == 64))) := rfl
          clear HRR
          by_cases r1 : s < 0
          · have hc9 : ce = 9 := by
              rw [HCE.out, all_not HX.out (by rw [HOW.out, show decide (0 ≤ s) = false by rw [decide_eq_false_iff_not]; omega]; rfl)]; simp
            subst hc9
            go_wp2
            go_ret
            exact ⟨rfl, below_any HB.out HB3.out⟩
          by_cases r2 : s < (k : Int)
          case neg =>
            have hc9 : ce = 9 := by
              rw [HCE.out, all_not HX.out (by rw [HOW.out, show decide (s < (k : Int)) = false by rw [decide_eq_false_iff_not]; omega]; simp)]; simp
            subst hc9
            go_wp2
            go_ret
            exact ⟨rfl, below_any HB.out HB3.out⟩
          by_cases h64 : (len : Int) = 64
          · go_wp2
            go_roundw
            case rel => exact ⟨j + 1, by omega, by go_num, take_step HK.out HX.out (by have := HE.out; rw [HOW.out, decide_eq_true (show 0 ≤ s by omega), decide_eq_true r2]; simp; omega), HB3.out⟩
            case measure => simp [intOf]; omega
          · have hc9 : ce = 9 := by
              rw [HCE.out, all_not HX.out (by have := HE.out; rw [HOW.out]; simp; omega)]; simp
            subst hc9
            have r3 : ¬ (k : Int) ≤ s := by omega
            have r4 : ¬ len = 64 := by omega
            go_wp2
            go_ret
            exact ⟨rfl, below_any HB.out HB3.out⟩
        · obtain rfl : j = m := by omega
          have hc0 : ce = 0 := by
            rw [HCE.out, take_all (by rw [← HM.out]; exact HK.out)]; simp
          subst hc0
          have hd1 : wr.cell? ⟨w.heap.size, 0, none⟩ = some (.slice a1 k c1) := by rw [hbel.cell (cell_lt hb1)]; exact hb1
          have hd2 : wr.cell? ⟨w.heap.size, 1, none⟩ = some (.slice a2 j c2) := by rw [hbel.cell (cell_lt hb2)]; exact hb2
          clear HK
          go_wp2
          go_ret
          exact ⟨rfl, below_any HB.out hbel⟩

end Go.Proofs.Ytkeaillmcfnnkaa
