/-
  That the page's examples hold of the program: the helper 'alive' of the statements answers true, in every memory, and leaves what was there.
-/
import Derived.Test.YtiinboedojjbkaaPut
import Derived.Test.YtiinboedojjbkaaSame
import Derived.Test.YtiinboedojjbkaaDec
import Derived.Test.YtiinboedojjbkaaUnhex
namespace Go.Proofs.Ytiinboedojjbkaa
open Go.RowKit

theorem num_any (x : Int) (w : World) : Calls Try.prog 17 #[.int .i64 x] w fun e w' => e = .returned (.int .i64 x) ∧ w = w' := by
  go_enter Try.func17, Try.ntmps17
  go_wp2
  go_ret
  exact ⟨rfl, rfl⟩

theorem oct_range (n k : Nat) : ∀ x ∈ oct n k, 0 ≤ x ∧ x ≤ 255 := by
  intro x hx
  simp only [oct, List.mem_map, List.mem_range] at hx
  obtain ⟨i, _, rfl⟩ := hx
  omega

/-- Put, as one contract on the octets. -/
theorem put_bytes (n k : Nat) (w : World) (h1 : n < 18446744073709551616) (h3 : k ≤ 64) (h4 : need n ≤ k) :
    Calls Try.prog 10 #[.int .u64 n, .int .i64 k] w fun e w' => e = .returned (.tuple #[.slice (some ⟨w.heap.size, 0, none⟩) k k, .int .i64 0]) ∧ Bytes w' (.slice (some ⟨w.heap.size, 0, none⟩) k k) (oct n k) ∧ Below w.heap.size w w' := by
  refine (put_ok n k w h1 h3 h4).mono ?_
  rintro e w' ⟨rfl, hown, hb⟩
  exact ⟨rfl, Bytes.own (base := w.heap.size) (by rw [oct_length]; exact hown) (oct_range n k), hb⟩

theorem unhex_bytes (s : ByteArray) (w : World) (hs : s.size ≤ 281474976710656) :
    Calls Try.prog 19 #[.string s] w fun e w' => ∃ v, e = .returned (.tuple #[v, .int .i64 (uerr (lets s))]) ∧ Bytes w' v (uout (lets s)) ∧ Below w.heap.size w w' := by
  refine (unhex_any s w hs).mono ?_
  rintro e w' ⟨v, rfl, hown, hb⟩
  exact ⟨v, rfl, Bytes.own (base := w.heap.size) hown (uout_range _), hb⟩

theorem bytes_lit (w : World) (l : List Int) (hl : l.length ≤ maxLen) (hr : ∀ x ∈ l, 0 ≤ x ∧ x ≤ 255) : Bytes (w.alloc (.cells (l.map (Value.int .u8)).toArray 5)) (.slice (some ⟨w.heap.size, 0, none⟩) l.length l.length) l :=
  Bytes.own (base := w.heap.size) (World.ownsRow_lit w (l.map (Value.int .u8)).toArray l.length (Nat.le_refl _) hl (by simp)) hr

theorem below_any {w a b : World} (h : Below w.heap.size w a) (k : Below a.heap.size a b) : Below w.heap.size w b := h.trans (k.mono h.size)

set_option maxHeartbeats 1000000 in
theorem alive_any (w : World) : Calls Try.prog 18 #[] w fun e w' => e = .returned (.bool true) ∧ Below w.heap.size w w' := by
  have hput := fun w : World => put_bytes 258 3 w (by omega) (by omega) (by decide +kernel)
  have hun := fun w : World => unhex_bytes ⟨#[48, 97, 70]⟩ w (by decide)
  have hd := fun w : World => dec_any (-7) w (by omega) (by omega)
  have e1 : oct 258 3 = [0, 1, 2] := by decide +kernel
  have e2 : uerr (lets ⟨#[48, 97, 70]⟩) = 8 := by decide +kernel
  have e3 : strOfNums (decimal (-7)) = ⟨#[45, 55]⟩ := by decide +kernel
  rw [e1] at hput
  rw [e2] at hun
  rw [e3] at hd
  clear e1 e2 e3
  go_enter Try.func18, Try.ntmps18
  go_wp2_with (first
    | (go_at_call 10; refine (hput _).mono ?_; rintro e w1 ⟨rfl, hB1, hb1⟩)
    | (go_at_call 19; refine (hun _).mono ?_; rintro e w2 ⟨v2, rfl, hB2, hb2⟩)
    | (go_at_call 17; refine (num_any _ _).mono ?_; rintro e w3 ⟨rfl, rfl⟩)
    | (go_at_call 16; refine (same_true _ _ [0, 1, 2] _ ((hB1.below hb2).below ((Below.refl _ _).alloc (Nat.le_refl _) _)) (bytes_lit w2 [0, 1, 2] (by decide) (by decide))).mono ?_; rintro e w4 ⟨rfl, q, rfl⟩)
    | (go_at_call 21; refine (hd _).mono ?_; rintro e w5 ⟨rfl, hb5⟩))
  go_ret
  refine ⟨rfl, ?_⟩
  have hb3 := below_any hb1 hb2
  have hb4 := below_drewN (hb3.alloc (o := .cells #[.int .u8 0, .int .u8 1, .int .u8 2] 5) hb3.size) q
  exact below_any hb4 hb5

end Go.Proofs.Ytiinboedojjbkaa
