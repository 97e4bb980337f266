/-
  What one bit, and four bits, make of the register in the program: the mathematics' own step, in every memory.
-/
import Derived.Test.YthlfgpnabcplnaaDoorTf1
import Derived.WalkKit
import Derived.WalkSpells
import Derived.ProofKit
import Derived.Deep.WholeRow
namespace Go.Proofs.YthlfgpnabcplnaaDoor.W.C
open Go.RowKit

theorem and1 (r : Nat) (h : r < 4294967296) : bits .and .u32 (r : Int) 1 = ((r % 2 : Nat) : Int) := by
  have := u32_and_nat r 1 h (by decide)
  rw [Nat.and_one_is_mod] at this
  exact this

theorem half (r : Nat) : (r : Int) / 2 = ((r / 2 : Nat) : Int) := by omega

theorem xorp (r : Nat) (h : r < 4294967296) : bits .xor .u32 (r : Int) 3988292384 = ((r ^^^ 3988292384 : Nat) : Int) := u32_xor_nat r 3988292384 h (by decide)

set_option maxHeartbeats 400000 in
theorem one_any (r : Nat) (h : r < 4294967296) (w : World) :
    Calls Tryd.prog 77 #[.int .u32 r] w fun e w' => e = .returned (.int .u32 (step r : Nat)) ∧ w = w' := by
  obtain ⟨m, hm⟩ : ∃ m, m = r / 2 := ⟨_, rfl⟩
  have h2 : (r : Int) / 2 = (m : Int) := by omega
  have h1 := and1 r h
  obtain ⟨x, hx⟩ : ∃ x, x = m ^^^ 3988292384 := ⟨_, rfl⟩
  have h3 : bits .xor .u32 (m : Int) 3988292384 = (x : Int) := by rw [hx]; exact xorp m (by omega)
  rcases Nat.mod_two_eq_zero_or_one r with c | c
  · have HS : Hid (step r = m) := by show _ = _; unfold step; rw [if_neg (by omega), hm]
    have h1' : bits .and .u32 (r : Int) 1 = 0 := by rw [h1, c]; rfl
    clear h1 h3 c hm hx
    go_enter Tryd.func77, Tryd.ntmps77
    go_wp2
    go_ret
    exact ⟨by rw [HS.out]; rfl, rfl⟩
  · have HS : Hid (step r = x) := by show _ = _; unfold step; rw [if_pos c, hx, hm]
    have h1' : bits .and .u32 (r : Int) 1 = 1 := by rw [h1, c]; rfl
    clear h1 c hm hx
    go_enter Tryd.func77, Tryd.ntmps77
    go_wp2
    go_ret
    exact ⟨by rw [HS.out]; rfl, rfl⟩

/-- What four bits make of the register, for the first k values of these bits; the rest 0. -/
def tab (k : Nat) : Array Value := ((List.range 16).map fun i => Value.int .u32 (if i < k then ((steps 4 i : Nat) : Int) else 0)).toArray

theorem tab_size (k : Nat) : (tab k).size = 16 := by simp [tab]
theorem tab_get (k i : Nat) (h : i < 16) : (tab k)[i]? = some (.int .u32 (if i < k then ((steps 4 i : Nat) : Int) else 0)) := by
  simp [tab, List.getElem?_map, List.getElem?_range h]
theorem tab_set (k : Nat) (h : k < 16) : (tab k).setIfInBounds k (.int .u32 ((steps 4 k : Nat) : Int)) = tab (k + 1) := by
  refine Array.ext_getElem? fun i => ?_
  rcases Nat.lt_or_ge i 16 with c | c
  · rw [Array.getElem?_setIfInBounds, tab_get _ _ c, tab_size]
    split
    · rename_i e; subst e; rw [tab_get _ _ c]; simp
    · rw [tab_get _ _ c]
      have : (i < k + 1) = (i < k) := by simp; omega
      simp [this]
  · rw [Array.getElem?_eq_none (by simp [tab_size]; omega), Array.getElem?_eq_none (by simp [tab_size]; omega)]

theorem zero123 : (∀ w, (zeroValue 118).run Tryd.prog w = .ok (.agg (tab 0)) w) ∧ (Tryd.prog.info? 118).map (·.size) = some 16 := zero_of_info (by kernel_rfl)

theorem steps_end (n r : Nat) : step (steps n r) = steps (n + 1) r := by
  rw [steps_add]; rfl

theorem tab_one (k : Nat) : (tab k).all (·.oneCell') = true := by
  simp [tab, Value.oneCell']

theorem below_setRow {w W : World} (hb : Below w.heap.size w W) {g : Nat} (hg : w.heap.size ≤ g) (cs : Array Value) : Below w.heap.size w (W.setRow g cs) :=
  ⟨hb.os, hb.tape, hb.output, by simpa [World.setRow] using hb.size, fun i h => by
    rw [← hb.block i h]
    simp only [World.setRow, Array.getElem?_modify]
    rw [if_neg (by omega)]⟩

set_option maxHeartbeats 1000000 in
theorem four_any (w : World) :
    Calls Tryd.prog 69 #[] w fun e w' => e = .returned (.agg (tab 16)) ∧ Below w.heap.size w w' := by
  have hz := zero123.1
  go_enter Tryd.func69, Tryd.ntmps69
  go_wp2
  go_loopw [4] (fun i wr => ∃ k : Nat, k ≤ 16 ∧ i = .int .i64 k ∧ wr = (w.alloc (Obj.cells (tab 0) 118)).alloc (Obj.cells (tab k) 118)) (fun i _ => 16 - (intOf i).toNat)
  case atStart => exact ⟨0, by omega, rfl, rfl⟩
  case round =>
    obtain ⟨k, hk, rfl, rfl⟩ := hrel
    by_cases hlt : k < 16
    · have hki : (k : Int) < 16 := by omega
      go_wp2
      go_loopw [3, 9] (fun r i wr => ∃ j : Nat, j ≤ 4 ∧ i = .int .i64 j ∧ r = .int .u32 ((steps j k : Nat) : Int) ∧ wr = (w.alloc (Obj.cells (tab 0) 118)).alloc (Obj.cells (tab k) 118)) (fun _ i _ => 4 - (intOf i).toNat)
      case atStart => exact ⟨0, by omega, rfl, rfl, rfl⟩
      case round =>
        obtain ⟨j, hj, rfl, rfl, rfl⟩ := hrel
        by_cases hlj : j < 4
        · have hji : (j : Int) < 4 := by omega
          have hone := fun w => one_any (steps j k) (steps_lt _ _ (by omega)) w
          rw [steps_end] at hone
          go_wp2_with (go_at_call 77; refine (hone _).mono ?_; rintro e w' ⟨rfl, rfl⟩)
          go_roundw
          case rel => exact ⟨j + 1, by omega, by go_num, rfl, trivial⟩
          case measure => simp [intOf]; omega
        · obtain rfl : j = 4 := by omega
          have hcell := tab_get k k hlt
          have hset := tab_set k hlt
          go_wp2
          go_roundw
          case rel => exact ⟨k + 1, by omega, by go_num, rfl⟩
          case measure => simp [intOf]; omega
    · obtain rfl : k = 16 := by omega
      obtain ⟨W, hW⟩ : ∃ W, W = (w.alloc (Obj.cells (tab 0) 118)).alloc (Obj.cells (tab 16) 118) := ⟨_, rfl⟩
      have h1 : W.heap[w.heap.size + 1]? = some (.cells (tab 16) 118 (0, 0)) := by
        rw [hW]
        have := heap_alloc_new (w.alloc (Obj.cells (tab 0) 118)) (Obj.cells (tab 16) 118)
        simpa using this
      have h0 : W.heap[w.heap.size]? = some (.cells (tab 0) 118 (0, 0)) := by
        rw [hW, heap_alloc_old _ _ (by simp), heap_alloc_new]
      have hb : Below w.heap.size w W := by
        rw [hW]
        exact ((Below.refl _ _).alloc (Nat.le_refl _) _).alloc (by simp) _
      rw [← hW]
      clear hz hW
      go_wp2_with (first
        | refine wpList_load_row rfl 118 _ rfl (w.heap.size + 1) rfl 118 (tab 16) (0, 0) _ h1 Tryd.underlying118 rfl (by rw [tab_size]; exact zero123.2) ?_
        | refine wpList_store_row rfl 118 _ _ rfl w.heap.size (tab 16) rfl rfl 118 (tab 0) h0 (by rw [tab_size]; exact zero123.2) (by rw [tab_size, tab_size]) (tab_one 16) ?_)
      (try simp only [Exit.inBlock, Exit.then])
      refine bodyPost_ret (results_cell_row (p := 0) (ty := 118) rfl _ _ w.heap.size 118 (tab 16) (0, 0) _ rfl (setRow_heap _ _ _ _ _ _ h0) Tryd.underlying118 rfl (by rw [tab_size]; exact zero123.2)) rfl ⟨rfl, ?_⟩
      exact below_setRow hb (Nat.le_refl _) _

end Go.Proofs.YthlfgpnabcplnaaDoor.W.C
