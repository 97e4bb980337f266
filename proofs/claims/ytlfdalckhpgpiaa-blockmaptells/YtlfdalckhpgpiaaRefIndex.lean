/-
  What the document's Index tells: the block whose path it is, found by trying all of them.
-/
import Derived.Test.YtlfdalckhpgpiaaPath
import Derived.Test.YtlfdalckhpgpiaaIndex
namespace Go.Proofs.Ytlfdalckhpgpiaa
open Go.RowKit

theorem idx_miss {l : List Int} (h : ∀ j : Nat, j < 76 → pathL j ≠ l) : idx l = none := by
  cases hi : idx l with
  | none => rfl
  | some x =>
    obtain ⟨hx, hp⟩ := path_idx hi
    have := h x.toNat (by omega)
    rw [Int.toNat_of_nonneg hx.1] at this
    exact absurd hp this

theorem idx_hit {l : List Int} {k : Nat} (hk : k < 76) (h : pathL k = l) : idxV l = k ∧ idxE l = 0 := by
  have := idx_path (x := k) (by omega)
  rw [h] at this
  exact idx_some this

set_option maxRecDepth 100000 in
set_option maxHeartbeats 2000000 in
theorem rindex_any : Indexes 12 := by
  intro n0 v l w h
  obtain ⟨a, c, rfl, hm⟩ := ints_shape h
  have HI : Hid (intsS.lies n0 w [.slice a l.length c] l) := h
  obtain ⟨n, hn⟩ : ∃ n, n = l.length := ⟨_, rfl⟩
  have HN : Hid (n = l.length) := hn
  rw [← hn] at HI hm ⊢
  unfold maxLen at hm
  have hl1 := run_len Try.underlying22 a n c
  obtain ⟨iv, hiv⟩ : ∃ x, x = idxV l := ⟨_, rfl⟩
  obtain ⟨ie, hie⟩ : ∃ x, x = idxE l := ⟨_, rfl⟩
  have HV : Hid (iv = idxV l ∧ ie = idxE l) := ⟨hiv, hie⟩
  rw [← hiv, ← hie]
  clear h hn hiv hie
  go_enter Try.func12, Try.ntmps12
  go_wp2
  go_loopw [4] (fun i wr => ∃ k : Nat, k ≤ 76 ∧ i = .int .i64 k ∧ Hid (∀ j : Nat, j < k → pathL j ≠ l) ∧ Below w.heap.size w wr) (fun i _ => 76 - (intOf i).toNat)
  case atStart => exact ⟨0, Nat.zero_le _, rfl, fun i hi => by omega, Below.refl _ _⟩
  case round =>
    obtain ⟨k, hk, rfl, HK, hbel⟩ := hrel
    by_cases hlt : k < 76
    · have HP := rpath_any k wr (by unfold I64; omega)
      have HB : Hid (Below w.heap.size w wr) := hbel
      have hki : (k : Int) < 76 := by omega
      obtain ⟨P, hP⟩ : ∃ P, P = pathL k := ⟨_, rfl⟩
      rw [← hP] at HP
      have hpl : P.length ≤ 3 := by rw [hP]; exact path_len _
      have HPP : Hid (P = pathL k) := hP
      obtain ⟨m, hm'⟩ : ∃ m, m = P.length := ⟨_, rfl⟩
      rw [← hm'] at HP hpl
      have HM : Hid (m = P.length) := hm'
      clear hbel hP hm'
      go_wp2_with fail
      refine HP.mono ?_
      rintro e w1 ⟨⟨a1, c1, rfl, ho1⟩, hb1⟩
      have hl2 := run_len Try.underlying22 a1 m c1
      have HW1 : Hid (∀ q, intsS.lies n0 (w1.drewN q) [.slice a n c] l ∧ intsS.lies 0 (w1.drewN q) [.slice a1 m c1] P ∧ Below w.heap.size w (w1.drewN q)) := fun q =>
        have hq := below_drewN (Below.refl w1.heap.size w1) q
        ⟨intsS.below HI.out (below_any (below_any HB.out hb1) hq), intsS.weaken (intsS.olies (intsS.obelow ho1 hq)) (Nat.zero_le _), below_any (below_any HB.out hb1) hq⟩
      clear HP ho1 hb1
      go_wp2
      go_loopw [7, 8] (fun s i wr => ∃ (j : Nat) (b : Bool), j ≤ m ∧ i = .int .i64 j ∧ s = .bool b ∧ Hid (b = true ↔ (P.length = l.length ∧ ∀ i : Nat, i < j → P[i]? = l[i]?)) ∧ ∃ q, wr = w1.drewN q) (fun _ i _ => m - (intOf i).toNat)
      case atStart =>
        refine ⟨0, _, Nat.zero_le _, rfl, rfl, ?_, 0, rfl⟩
        show _ ↔ _
        rw [← HM.out, ← HN.out]
        constructor
        · intro h
          have h : (m : Int) = (n : Int) := by simpa using h
          exact ⟨by omega, fun i hi => by omega⟩
        · intro h
          simp [h.1]
      case round =>
        obtain ⟨j, b, hj, rfl, rfl, HJ, q, rfl⟩ := hrel
        cases b with
        | false =>
          have HNE : Hid (pathL k ≠ l) := fun e => by
            have h1 := HJ.out.2 ⟨by rw [HPP.out, e], fun i _ => by rw [HPP.out, e]⟩
            cases h1
          have HBQ : Hid (Below w.heap.size w (w1.drewN q)) := (HW1.out q).2.2
          clear HJ HW1
          go_wp2
          go_roundw
          case rel =>
            refine ⟨k + 1, by omega, by go_num, fun i hi => ?_, HBQ.out⟩
            by_cases e : i < k
            · exact HK.out i e
            · obtain rfl : i = k := by omega
              exact HNE.out
          case measure => simp [intOf]; omega
        | true =>
          by_cases hjm : j < m
          · obtain ⟨x, hx⟩ := get_lt (l := P) (k := j) (by rw [← HM.out]; exact hjm)
            have hlen : n = m := by rw [HN.out, HM.out]; exact (HJ.out.1 rfl).1.symm
            obtain ⟨y, hy⟩ := get_lt (l := l) (k := j) (by rw [← HN.out, hlen]; exact hjm)
            obtain ⟨b1, o1, hix1, g1, _⟩ := ints_at (HW1.out 0).2.1 j x hx
            obtain ⟨b2, o2, hix2, g2, _⟩ := ints_at (HW1.out 0).1 j y hy
            have hji : (j : Int) < (m : Int) := by omega
            have g1 : w1.cell? ⟨b1, o1, none⟩ = some (.int .i64 x) := g1
            have g2 : w1.cell? ⟨b2, o2, none⟩ = some (.int .i64 y) := g2
            have HXY : Hid (P[j]? = some x ∧ l[j]? = some y) := ⟨hx, hy⟩
            clear hx hy hlen
            go_wp2
            go_quiet (fail)
            go_wp2
            go_roundw
            case rel =>
              refine ⟨j + 1, x == y, by omega, by go_num, rfl, ?_, _, rfl⟩
              show _ ↔ _
              constructor
              · intro e
                have e : x = y := by simpa using e
                have HQ := HJ.out.1 (by trivial)
                refine ⟨HQ.1, fun i hi => ?_⟩
                by_cases c : i < j
                · exact HQ.2 i c
                · obtain rfl : i = j := by omega
                  rw [HXY.out.1, HXY.out.2, e]
              · intro e
                have := e.2 j (by omega)
                rw [HXY.out.1, HXY.out.2] at this
                simpa using this
            case measure => simp [intOf]; omega
          · obtain rfl : j = m := by omega
            have heq : pathL k = l := by
              have := HJ.out.1 rfl
              rw [← HPP.out]
              exact alike this.1 (fun i hi => this.2 i (by rw [HM.out]; exact hi))
            have hv := idx_hit hlt heq
            obtain rfl : iv = k := HV.out.1.trans hv.1
            obtain rfl : ie = 0 := HV.out.2.trans hv.2
            have HBQ : Hid (Below w.heap.size w (w1.drewN q)) := (HW1.out q).2.2
            clear heq hv HV HJ HW1
            go_wp2
            go_ret2
            exact ⟨rfl, HBQ.out⟩
    · obtain rfl : k = 76 := by omega
      have hv := idx_none (idx_miss HK.out)
      obtain rfl : iv = 0 := HV.out.1.trans hv.1
      obtain rfl : ie = 4 := HV.out.2.trans hv.2
      have HBQ : Hid (Below w.heap.size w wr) := hbel
      clear hv HV hbel
      go_wp2
      go_ret2
      exact ⟨rfl, HBQ.out⟩

end Go.Proofs.Ytlfdalckhpgpiaa
