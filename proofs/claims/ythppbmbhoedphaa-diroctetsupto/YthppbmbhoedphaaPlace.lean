/-
  Where a name stands, or would stand, among entries in order: the closure, the library's sort.Search with it, and dir.place.
-/
import Derived.Test.YthppbmbhoedphaaRCheck
import Derived.Deep.LoopGhost
namespace Go.Proofs.Ythppbmbhoedphaa
open Go.RowKit

/-- How many names are less. -/
def pos (l : List En) (x : ByteArray) : Nat := l.countP fun p => ltB p.1 x
theorem pos_le (l : List En) (x : ByteArray) : pos l x ≤ l.length := List.countP_le_length
theorem pos_none {l : List En} {x : ByteArray} (h : ∀ p ∈ l, ltB p.1 x = false) : pos l x = 0 := by
  unfold pos
  rw [List.countP_eq_zero]
  intro p hp
  simp [h p hp]
theorem pos_at {l : List En} (hU : Up l) (x : ByteArray) : ∀ {i : Nat} {p : En}, l[i]? = some p → (ltB p.1 x = true ↔ i < pos l x) := by
  induction l with
  | nil => intro i p h; simp at h
  | cons q r ih =>
    obtain ⟨h1, h2⟩ := List.pairwise_cons.1 hU
    intro i p h
    cases hq : ltB q.1 x
    · have hr : ∀ p ∈ q :: r, ltB p.1 x = false := fun p hp => by
        rcases List.mem_cons.1 hp with rfl | hp
        · exact hq
        · rw [Bool.eq_false_iff]
          intro hc
          rw [ltB_trans (h1 p hp) hc] at hq
          cases hq
      rw [pos_none hr, hr p (List.mem_of_getElem? h)]
      simp
    · have e : pos (q :: r) x = pos r x + 1 := by simp [pos, hq]
      rw [e]
      cases i with
      | zero =>
        simp at h
        subst h
        simp [hq]
      | succ i =>
        simp at h
        rw [ih h2 h]
        omega

set_option maxHeartbeats 1000000 in
theorem closure_any (n0 B1 B2 : Nat) (v : Value) (l : List En) (x : ByteArray) (i : Nat) (p : En) (hp : l[i]? = some p) (w : World) (h : ArgE n0 w v l) (hl : w.cell? ⟨B1, 0, none⟩ = some v) (hx : w.cell? ⟨B2, 0, none⟩ = some (.string x)) :
    Calls Try.prog 37 #[.int .i64 i, .pointer (some ⟨B1, 0, none⟩), .pointer (some ⟨B2, 0, none⟩)] w fun e w' => e = .returned (.bool !(ltB p.1 x)) ∧ ∃ q, w' = w.drewN q := by
  obtain ⟨b, o, hix, _, hc0, hc1⟩ := h.atN i p hp
  obtain ⟨a, c, rfl, _⟩ := h.shape
  obtain ⟨s, y⟩ := p
  simp only at hc0 hc1 ⊢
  obtain ⟨z, hz⟩ : ∃ z, Op.bytesLess s.toList x.toList = z := ⟨_, rfl⟩
  have hzz : ltB s x = z := hz
  rw [hzz]
  obtain ⟨n, hn⟩ : ∃ n, n = l.length := ⟨_, rfl⟩
  rw [← hn] at hix hl
  clear h hp hzz hn
  go_enter Try.func37, Try.ntmps37
  go_wp2
  go_quiet (fail)
  go_wp2
  go_ret
  exact ⟨rfl, _, rfl⟩

set_option maxRecDepth 100000 in
set_option maxHeartbeats 2000000 in
theorem search_any (n0 B1 B2 : Nat) (v : Value) (l : List En) (hU : Up l) (x : ByteArray) (w : World) (hA : ArgE n0 w v l) (hl : w.cell? ⟨B1, 0, none⟩ = some v) (hx : w.cell? ⟨B2, 0, none⟩ = some (.string x)) (hn : l.length < 4611686018427387904) :
    Calls Try.prog 36 #[.int .i64 l.length, .func (.func 37) #[] #[.pointer (some ⟨B1, 0, none⟩), .pointer (some ⟨B2, 0, none⟩)]] w fun e w' => e = .returned (.int .i64 (pos l x)) ∧ ∃ q, w' = w.drewN q := by
  have HC : Hid (∀ (i : Nat) (p : En) (q : Nat), l[i]? = some p → Calls Try.prog 37 #[.int .i64 i, .pointer (some ⟨B1, 0, none⟩), .pointer (some ⟨B2, 0, none⟩)] (w.drewN q) fun e w' => e = .returned (.bool !(ltB p.1 x)) ∧ ∃ q', w' = w.drewN q') := fun i p q hp =>
    (closure_any n0 B1 B2 v l x i p hp (w.drewN q) (hA.below (below_drewN (Below.refl _ _) q)) hl hx).mono fun e w' h => ⟨h.1, by obtain ⟨r, hr⟩ := h.2; exact ⟨_, by rw [hr]; exact World.drewN_drewN _ _ _⟩⟩
  have HU : Hid (∀ {i : Nat} {p : En}, l[i]? = some p → (ltB p.1 x = true ↔ i < pos l x)) := pos_at hU x
  have hpl := pos_le l x
  obtain ⟨n, hnn⟩ : ∃ n, n = l.length := ⟨_, rfl⟩
  obtain ⟨c, hc⟩ : ∃ c, c = pos l x := ⟨_, rfl⟩
  have HN : Hid (n = l.length) := hnn
  rw [← hnn] at hn hpl ⊢
  rw [← hc] at hpl HU ⊢
  clear hA hl hx hU hnn hc
  go_enter Try.func36, Try.ntmps36
  go_wp2
  go_loopg [5, 6] n (fun kx s5 s6 wr => ∃ (lo hi q : Nat), s5 = .int .i64 lo ∧ s6 = .int .i64 hi ∧ lo ≤ c ∧ c ≤ hi ∧ hi ≤ n ∧ hi - lo ≤ kx ∧ wr = w.drewN q)
  case atStart => exact ⟨0, n, 0, rfl, rfl, Nat.zero_le _, hpl, Nat.le_refl _, by omega, rfl⟩
  case round =>
    obtain ⟨lo, hi, q, rfl, rfl, h1, h2, h3, h4, rfl⟩ := hrel
    by_cases hlt : lo < hi
    · obtain ⟨m, hm⟩ : ∃ m, m = (lo + hi) / 2 := ⟨_, rfl⟩
      obtain ⟨p, hp⟩ := get_lt (l := l) (k := m) (by rw [← HN.out]; omega)
      have hcall := HC.out m p q hp
      have hiff := HU.out hp
      rw [show (m : Int) = ((lo : Int) + (hi : Int)) / 2 by omega] at hcall
      cases hb : ltB p.1 x
      · rw [hb] at hcall hiff
        have hge : c ≤ m := by
          rcases Nat.lt_or_ge m c with h | h
          · have := hiff.2 h; cases this
          · exact h
        clear hb hiff hp HC
        go_wp2_with (go_at_call 37; refine hcall.mono ?_; rintro e w' ⟨rfl, nq, rfl⟩)
        go_roundg (m - lo)
        case measure => omega
        case rel => exact ⟨lo, m, nq, rfl, by rw [show ((lo : Int) + (hi : Int)) / 2 = (m : Int) by omega], h1, hge, by omega, Nat.le_refl _, rfl⟩
      · rw [hb] at hcall hiff
        have hlt2 : m < c := hiff.1 rfl
        clear hb hiff hp HC
        go_wp2_with (go_at_call 37; refine hcall.mono ?_; rintro e w' ⟨rfl, nq, rfl⟩)
        go_roundg (hi - (m + 1))
        case measure => omega
        case rel => exact ⟨m + 1, hi, nq, by rw [show ((lo : Int) + (hi : Int)) / 2 + 1 = ((m + 1 : Nat) : Int) by omega], rfl, hlt2, h2, h3, Nat.le_refl _, rfl⟩
    · obtain rfl : lo = c := by omega
      go_wp2
      go_ret
      exact ⟨rfl, q, rfl⟩

end Go.Proofs.Ythppbmbhoedphaa
