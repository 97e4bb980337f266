/-
  What the small functions answer in every memory: reaches, every, num, and the copies of octets.
-/
import Derived.Test.YtkeaillmcfnnkaaBase
namespace Go.Proofs.Ytkeaillmcfnnkaa
open Go.RowKit

/-- Whether there are k sectors from s on. -/
def reach (n : Nat) (s k : Int) : Bool := decide (0 ≤ s) && (decide (0 ≤ k) && decide (k ≤ (n : Int) - s))

set_option maxHeartbeats 1000000 in
theorem reaches_any (a1 a2 : Option Addr) (n c1 m c2 : Nat) (s k : Int) (w : World) (hn : n ≤ maxLen) (hs : -9223372036854775808 ≤ s ∧ s ≤ 9223372036854775807) :
    Calls Try.prog 32 #[.agg #[.slice a1 n c1, .slice a2 m c2], .int .i64 s, .int .i64 k] w fun e w' => e = .returned (.bool (reach n s k)) ∧ Below w.heap.size w w' := by
  unfold maxLen at hn
  have hl := run_len Try.underlying22 a1 n c1
  have HW : Hid (0 ≤ s → IntKind.i64.wrap ((n : Int) - s) = (n : Int) - s) := fun h => by rw [IntKind.wrap_i64]; omega
  have HB : Hid (Below w.heap.size w (w.alloc (.cells #[.slice a1 n c1, .slice a2 m c2] 30))) := (Below.refl _ w).alloc (Nat.le_refl _) _
  by_cases h1 : 0 ≤ s
  · have hw := HW.out h1
    by_cases h2 : 0 ≤ k
    · by_cases h3 : k ≤ (n : Int) - s
      · rw [show reach n s k = true by simp [reach]; omega]
        go_enter Try.func32, Try.ntmps32
        go_wp2
        go_ret
        exact ⟨rfl, HB.out⟩
      · rw [show reach n s k = false by simp [reach]; omega]
        go_enter Try.func32, Try.ntmps32
        go_wp2
        go_ret
        exact ⟨rfl, HB.out⟩
    · rw [show reach n s k = false by simp [reach]; omega]
      go_enter Try.func32, Try.ntmps32
      go_wp2
      go_ret
      exact ⟨rfl, HB.out⟩
  · rw [show reach n s k = false by simp [reach]; omega]
    go_enter Try.func32, Try.ntmps32
    go_wp2
    go_ret
    exact ⟨rfl, HB.out⟩

set_option maxHeartbeats 400000 in
theorem num_any (x : Int) (w : World) : Calls Try.prog 20 #[.int .i64 x] w fun e w' => e = .returned (.int .i64 x) ∧ w = w' := by
  go_enter Try.func20, Try.ntmps20
  go_wp2
  go_ret
  exact ⟨rfl, rfl⟩

set_option maxHeartbeats 400000 in
theorem every_any (x : Int) (w : World) : Calls Try.prog 39 #[.int .i64 x] w fun e w' => e = .returned (.bool true) ∧ w = w' := by
  go_enter Try.func39, Try.ntmps39
  go_wp2
  go_ret
  exact ⟨rfl, rfl⟩

theorem one_cells (l : List Int) : ∀ u ∈ l.map (Value.int .u8), u.oneCell' = true := fun u hu => by
  obtain ⟨y, _, rfl⟩ := List.mem_map.1 hu
  rfl

/-- What a copy of octets makes: the same ones in a block of its own. -/
def Copies (f : FuncId) : Prop := ∀ (n0 : Nat) (v : Value) (l : List Int) (w : World), Arg n0 w v l → l.length ≤ 140737488355328 →
    Calls Try.prog f #[v] w fun e w' => (∃ v', e = .returned v' ∧ w'.ownsRow w.heap.size 5 1 v' l.length (l.map (Value.int .u8))) ∧ Below w.heap.size w w'

set_option maxHeartbeats 400000 in
theorem copy_any : Copies 10 := by
  intro n0 v l w h hs
  obtain ⟨i0, hi, hz0, hz1, hz2⟩ := info_parts Try.info5
  obtain ⟨⟨hl, h | ⟨x, cap, rfl, hcap, hm, _, hc⟩⟩, ho⟩ := h
  · obtain ⟨rfl, h0⟩ := h
    obtain rfl := List.eq_nil_of_length_eq_zero h0
    go_enter Try.func10, Try.ntmps10
    go_wp2_with (at_builtin; refine wpList_append_own_none rfl _ _ 26 rfl w.heap.size 5 i0 1 Try.underlying26 hi (.slice none 0 0) 0 [] rfl (World.ownsRow_nil _ _ _ _) rfl ?_)
    go_ret
    exact ⟨⟨_, rfl, World.ownsRow_nil _ _ _ _⟩, Below.refl _ _⟩
  · have hone := one_cells l
    go_enter Try.func10, Try.ntmps10
    go_wp2_with (at_builtin; refine wpList_append_own _ rfl _ _ 26 rfl w.heap.size 5 i0 (.int .u8 0) 1 1 Try.underlying26 hi hz0 hz1 hz2 rfl (by decide) (.slice none 0 0) 0 [] rfl (World.ownsRow_nil _ _ _ _) x l.length cap (l.map (Value.int .u8)) rfl (by simp) hc hone (by omega) (by omega) (Nat.le_refl _) ?_)
    intro v' w1 hown hgrow _
    have hb : Below w.heap.size w w1 := (Below.refl _ _).grown hgrow (Nat.le_refl _) (fun _ h => by cases h)
    clear hgrow hc hone
    go_wp2
    go_ret
    exact ⟨⟨v', rfl, by simpa using hown⟩, hb⟩

set_option maxHeartbeats 400000 in
theorem copied_any : Copies 41 := by
  intro n0 v l w h hs
  obtain ⟨i0, hi, hz0, hz1, hz2⟩ := info_parts Try.info5
  obtain ⟨⟨hl, h | ⟨x, cap, rfl, hcap, hm, _, hc⟩⟩, ho⟩ := h
  · obtain ⟨rfl, h0⟩ := h
    obtain rfl := List.eq_nil_of_length_eq_zero h0
    go_enter Try.func41, Try.ntmps41
    go_wp2_with (at_builtin; refine wpList_append_own_none rfl _ _ 26 rfl w.heap.size 5 i0 1 Try.underlying26 hi (.slice none 0 0) 0 [] rfl (World.ownsRow_nil _ _ _ _) rfl ?_)
    go_ret
    exact ⟨⟨_, rfl, World.ownsRow_nil _ _ _ _⟩, Below.refl _ _⟩
  · have hone := one_cells l
    go_enter Try.func41, Try.ntmps41
    go_wp2_with (at_builtin; refine wpList_append_own _ rfl _ _ 26 rfl w.heap.size 5 i0 (.int .u8 0) 1 1 Try.underlying26 hi hz0 hz1 hz2 rfl (by decide) (.slice none 0 0) 0 [] rfl (World.ownsRow_nil _ _ _ _) x l.length cap (l.map (Value.int .u8)) rfl (by simp) hc hone (by omega) (by omega) (Nat.le_refl _) ?_)
    intro v' w1 hown hgrow _
    have hb : Below w.heap.size w w1 := (Below.refl _ _).grown hgrow (Nat.le_refl _) (fun _ h => by cases h)
    clear hgrow hc hone
    go_wp2
    go_ret
    exact ⟨⟨v', rfl, by simpa using hown⟩, hb⟩

theorem in_nil (w : World) (d : Nat) (a : Option Addr) (l c : Nat) : (Op.equalIn (d + 1) 26 (.slice a l c) (.slice none 0 0)).run Try.prog w = .ok a.isNone w := by
  cases a <;> simp [Op.equalIn, run_underlying Try.underlying26]
theorem equal_nil (w : World) (a : Option Addr) (l c : Nat) : (Op.equal 26 (.slice a l c) (.slice none 0 0)).run Try.prog w = .ok a.isNone w := in_nil w 9999 a l c
theorem eql_nil (w : World) (a : Option Addr) (l c : Nat) : (binOp .eql 26 (.slice a l c) (.slice none 0 0)).run Try.prog w = .ok (.bool a.isNone) w := by
  simp [binOp, equal_nil w a l c]

set_option maxHeartbeats 400000 in
theorem clone_bytes : Copies 45 := by
  intro n0 v l w h hs
  obtain ⟨i0, hi, hz0, hz1, hz2⟩ := info_parts Try.info5
  obtain ⟨⟨hl, h | ⟨x, cap, rfl, hcap, hm, _, hc⟩⟩, ho⟩ := h
  · obtain ⟨rfl, h0⟩ := h
    obtain rfl := List.eq_nil_of_length_eq_zero h0
    have hq := fun w => eql_nil w none 0 0
    go_enter Try.func45, Try.ntmps45
    go_wp2
    go_ret
    exact ⟨⟨_, rfl, World.ownsRow_nil _ _ _ _⟩, Below.refl _ _⟩
  · have HN : Hid (∀ j u, (l.map (Value.int .u8))[j]? = some u → (w.alloc (.cells #[] 5)).cell? (x.add j) = some u) := fun j u hj => by
      have g := hc j u hj
      rw [((Below.refl w.heap.size w).alloc (Nat.le_refl _) _).cell (cell_lt g)]
      exact g
    have hone := one_cells l
    clear hc
    have hq := fun w => eql_nil w (some x) l.length cap
    go_enter Try.func45, Try.ntmps45
    go_wp2_with (at_builtin; refine wpList_append_own _ rfl _ _ 26 rfl w.heap.size 5 i0 (.int .u8 0) 1 1 Try.underlying26 hi hz0 hz1 hz2 rfl (by decide) (.slice (some ⟨w.heap.size, 0, none⟩) 0 0) 0 [] rfl (World.ownsRow_lit w #[] 0 (Nat.le_refl _) (by unfold maxLen; omega) (by simp)) x l.length cap (l.map (Value.int .u8)) rfl (by simp) HN.out hone (by omega) (by omega) (by simp) ?_; intro v' w1 hown hgrow _)
    have hb : Below w.heap.size w w1 := ((Below.refl w.heap.size w).alloc (Nat.le_refl _) (.cells #[] 5)).grown hgrow (by simp) (fun k h => by cases h; exact Nat.le_refl _)
    have hown' : w1.ownsRow w.heap.size 5 1 v' l.length (l.map (Value.int .u8)) := by simpa using hown
    clear hgrow hown hone
    go_wp2
    go_ret
    exact ⟨⟨v', rfl, hown'⟩, hb⟩

end Go.Proofs.Ytkeaillmcfnnkaa
