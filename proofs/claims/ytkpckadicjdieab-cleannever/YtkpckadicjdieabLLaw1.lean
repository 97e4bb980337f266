/-
  The laws' own helpers: a store for the program, in memory of its own; whether two are alike.
-/
import Derived.Test.YtkpckadicjdieabLNew
import Derived.Test.YtkpckadicjdieabOfL
import Derived.Test.YtkpckadicjdieabAlikeL
namespace Go.Proofs.Ytkpckadicjdieab
open Go.RowKit

set_option maxHeartbeats 1000000 in
theorem cbools_any (n0 : Nat) (v : Value) (l : List Bool) (w : World) (h : boolsS.lies n0 w [v] l) (hs : l.length ≤ 140737488355328) :
    Calls Try.prog 26 #[v] w fun e w' => (∃ v', e = .returned v' ∧ boolsS.owns w.heap.size w' [v'] l) ∧ Below w.heap.size w w' := by
  obtain ⟨i0, hi, hz0, hz1, hz2⟩ := info_parts Try.info4
  obtain ⟨v', hv, hC, _⟩ := h
  obtain rfl : v = v' := by simpa using hv
  obtain ⟨hl, h | ⟨x, cap, rfl, hcap, hm, _, hc⟩⟩ := hC
  · obtain ⟨rfl, h0⟩ := h
    obtain rfl := List.eq_nil_of_length_eq_zero h0
    go_enter Try.func26, Try.ntmps26
    go_wp2_with (at_builtin; refine wpList_append_own_none rfl _ _ 23 rfl w.heap.size 4 i0 1 Try.underlying23 hi (.slice none 0 0) 0 [] rfl (World.ownsRow_nil _ _ _ _) rfl ?_)
    go_ret
    exact ⟨⟨_, rfl, ⟨_, rfl, World.ownsRow_nil _ _ _ _, fun _ _ => trivial⟩⟩, Below.refl _ _⟩
  · have hone : ∀ u ∈ l.map bL.val, u.oneCell' = true := fun u hu => by
      obtain ⟨y, _, rfl⟩ := List.mem_map.1 hu
      rfl
    go_enter Try.func26, Try.ntmps26
    go_wp2_with (at_builtin; refine wpList_append_own _ rfl _ _ 23 rfl w.heap.size 4 i0 (.bool false) 1 1 Try.underlying23 hi hz0 hz1 hz2 rfl (by decide) (.slice none 0 0) 0 [] rfl (World.ownsRow_nil _ _ _ _) x l.length cap (l.map bL.val) rfl (by simp) hc hone (by omega) (by omega) (Nat.le_refl _) ?_)
    intro v' w1 hown hgrow _
    have hb : Below w.heap.size w w1 := (Below.refl _ _).grown hgrow (Nat.le_refl _) (fun _ h => by cases h)
    clear hgrow hc hone
    go_wp2
    go_ret
    exact ⟨⟨v', rfl, ⟨_, rfl, (show w1.ownsRow w.heap.size 4 1 v' l.length (l.map bL.val) by simpa using hown), fun _ _ => trivial⟩⟩, hb⟩

theorem own_set4 {α : Type} (S : Shape α) (hid : 31 ∉ S.ids) {n B : Nat} {w : World} {us : List Value} {x : α} {cs : Array Value} (h : S.owns n w us x) (hB : Box w B 31 cs) (u v y z : Value) : S.owns n ((((w.setCell ⟨B, 0, none⟩ u).setCell ⟨B, 1, none⟩ v).setCell ⟨B, 2, none⟩ y).setCell ⟨B, 3, none⟩ z) us x :=
  S.ogrown (S.ogrown (S.ogrown (S.ogrown h (grown_set w B 0 u) (hB.clear hid)) (grown_set _ B 1 v) ((hB.set 0 u).clear hid)) (grown_set _ B 2 y) (((hB.set 0 u).set 1 v).clear hid)) (grown_set _ B 3 z) ((((hB.set 0 u).set 1 v).set 2 y).clear hid)

set_option maxRecDepth 100000 in
set_option maxHeartbeats 2000000 in
theorem sbools_true (n1 n2 : Nat) (v1 v2 : Value) (l : List Bool) (w : World) (h1 : boolsS.lies n1 w [v1] l) (h2 : boolsS.lies n2 w [v2] l) :
    Calls Try.prog 51 #[v1, v2] w fun e w' => e = .returned (.bool true) ∧ ∃ q, w' = w.drewN q := by
  obtain ⟨a1, c1, e1, _, m1, _⟩ := Leaf.row_len (L := bL) (ht := Try.underlying23) (hc := cells23) h1
  obtain ⟨a2, c2, e2, _, m2, _⟩ := Leaf.row_len (L := bL) (ht := Try.underlying23) (hc := cells23) h2
  obtain rfl : v1 = _ := by simpa using e1
  obtain rfl : v2 = _ := by simpa using e2
  obtain ⟨n, hn⟩ : ∃ n, n = l.length := ⟨_, rfl⟩
  rw [← hn] at h1 h2 m1 m2 ⊢
  unfold maxLen at m1
  have HL : Hid (boolsS.lies n1 w [.slice a1 n c1] l ∧ boolsS.lies n2 w [.slice a2 n c2] l ∧ n = l.length) := ⟨h1, h2, hn⟩
  have hl1 := run_len Try.underlying23 a1 n c1
  have hl2 := run_len Try.underlying23 a2 n c2
  clear h1 h2 e1 e2 hn m2
  go_enter Try.func51, Try.ntmps51
  go_wp2
  go_loopw [5] (fun i wr => ∃ k : Nat, k ≤ n ∧ i = .int .i64 k ∧ ∃ q, wr = w.drewN q) (fun i _ => n - (intOf i).toNat)
  case atStart => exact ⟨0, Nat.zero_le _, rfl, 0, rfl⟩
  case round =>
    obtain ⟨k, hk, rfl, q, rfl⟩ := hrel
    by_cases hlt : k < n
    · obtain ⟨x, hx⟩ := get_lt (l := l) (k := k) (by rw [← HL.out.2.2]; exact hlt)
      obtain ⟨b1, o1, hix1, _, g1⟩ := bools_at HL.out.1 k x hx
      obtain ⟨b2, o2, hix2, _, g2⟩ := bools_at HL.out.2.1 k x hx
      have hkn : (k : Int) < (n : Int) := by omega
      clear hx
      cases x with
      | true =>
        go_wp2
        go_quiet (fail)
        go_wp2
        go_roundw
        case rel => exact ⟨k + 1, by omega, by go_num, _, rfl⟩
        case measure => simp [intOf]; omega
      | false =>
        go_wp2
        go_quiet (fail)
        go_wp2
        go_roundw
        case rel => exact ⟨k + 1, by omega, by go_num, _, rfl⟩
        case measure => simp [intOf]; omega
    · obtain rfl : k = n := by omega
      go_wp2
      go_ret
      exact ⟨rfl, q, rfl⟩

end Go.Proofs.Ytkpckadicjdieab
