/-
  What SameInts answers of the same numbers.
-/
import Derived.Test.YtmjgamokddedkaaOwners
import Derived.BigQuiet
namespace Go.Proofs.Ytmjgamokddedkaa
open Go.RowKit

theorem OwnI.at {base : Nat} {w : World} {v : Value} {zs : List Int} (h : OwnI base w v zs) (i : Nat) (x : Int) (hx : zs[i]? = some x) :
    ∃ b o, (∀ W, (Instr.indexAt 40 v (.int .i64 i)).run Try.prog W = .ok (.pointer (some ⟨b, o, none⟩)) W) ∧ w.cell? ⟨b, o, none⟩ = some (.int .i64 x) := by
  obtain ⟨i3, hi3, _, hz31, _⟩ := info_parts Try.info3
  obtain ⟨b, o, hix, _, hcell⟩ := (Cells.own h).index (by decide) Try.underlying40 hi3 hz31 i (List.getElem?_eq_some_iff.1 hx).1
  exact ⟨b, o, hix, hcell 0 _ (by simp [List.getElem?_map, hx])⟩
theorem OwnI.max {base : Nat} {w : World} {v : Value} {zs : List Int} (h : OwnI base w v zs) : zs.length ≤ maxLen := by
  rcases h.2 with ⟨_, h0⟩ | ⟨g, cap, cur, e1, _, _, h1, h2, _⟩
  · rw [h0]; exact Nat.zero_le _
  · omega
theorem OwnI.below {base : Nat} {w w' : World} {v : Value} {zs : List Int} (h : OwnI base w v zs) (hb : Below w.heap.size w w') : OwnI base w' v zs := own_below h hb

set_option maxRecDepth 100000 in
set_option maxHeartbeats 2000000 in
theorem sameI_true (b1 b2 : Nat) (v1 v2 : Value) (zs : List Int) (w : World) (h1 : OwnI b1 w v1 zs) (h2 : OwnI b2 w v2 zs) :
    Calls Try.prog 20 #[v1, v2] w fun e w' => e = .returned (.bool true) ∧ Below w.heap.size w w' := by
  obtain ⟨a1, c1, rfl⟩ := own_shape h1
  obtain ⟨a2, c2, rfl⟩ := own_shape h2
  have hm := h1.max
  obtain ⟨n, hn⟩ : ∃ n, n = zs.length := ⟨_, rfl⟩
  have HH : Hid (OwnI b1 w (.slice a1 zs.length c1) zs ∧ OwnI b2 w (.slice a2 zs.length c2) zs) := ⟨h1, h2⟩
  have HN : Hid (n = zs.length) := hn
  rw [← hn] at HH hm ⊢
  unfold maxLen at hm
  have l1 := run_len Try.underlying40 a1 n c1
  have l2 := run_len Try.underlying40 a2 n c2
  clear h1 h2 hn
  go_enter Try.func20, Try.ntmps20
  go_wp2
  go_loopw [5] (fun i wr => ∃ k : Nat, k ≤ n ∧ i = .int .i64 k ∧ Hid (Below w.heap.size w wr)) (fun i _ => n - (intOf i).toNat)
  case atStart => exact ⟨0, Nat.zero_le _, rfl, Below.refl _ _⟩
  case round =>
    obtain ⟨k, hk, rfl, HB⟩ := hrel
    by_cases hlt : k < n
    · have hki : (k : Int) < (n : Int) := by omega
      obtain ⟨x, hx⟩ := get_lt (l := zs) (k := k) (by rw [← HN.out]; exact hlt)
      obtain ⟨d1, o1, hi1, p1⟩ := (HH.out.1.below HB.out).at k x hx
      obtain ⟨d2, o2, hi2, p2⟩ := (HH.out.2.below HB.out).at k x hx
      clear hx
      go_wp2
      go_quiet (fail)
      have HB2 : Hid (Below w.heap.size w (wr.drewN nq)) := below_drewN HB.out _
      go_wp2
      go_roundw
      case rel => exact ⟨k + 1, by omega, by go_num, HB2⟩
      case measure => simp [intOf]; omega
    · have hki : ¬ (k : Int) < (n : Int) := by omega
      go_wp2
      go_ret
      exact ⟨rfl, HB.out⟩

end Go.Proofs.Ytmjgamokddedkaa
