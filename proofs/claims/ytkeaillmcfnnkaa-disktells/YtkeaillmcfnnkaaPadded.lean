/-
  What the document's padded makes: a sector's octets; and what Spoil does: it writes over one block alone.
-/
import Derived.Test.YtkeaillmcfnnkaaClone
namespace Go.Proofs.Ytkeaillmcfnnkaa
open Go.RowKit

def part (l : List Int) (k : Nat) : List Int := l.take k ++ List.replicate (64 - k) 0
theorem part_zero (l : List Int) : part l 0 = zeros := by simp [part, zeros]
theorem part_all (l : List Int) : part l l.length = pad l := by simp [part, pad]
theorem part_len (l : List Int) (k : Nat) (h1 : k ≤ l.length) (h2 : l.length ≤ 64) : (part l k).length = 64 := by simp [part]; omega
theorem part_step (l : List Int) (k : Nat) (h1 : k < l.length) (h2 : l.length ≤ 64) : (part l k).set k (l.getD k 0) = part l (k + 1) := by
  have hl : (l.take k).length = k := by rw [List.length_take]; omega
  unfold part
  rw [List.set_append_right _ _ (by omega), hl, Nat.sub_self, show 64 - k = (64 - (k + 1)) + 1 by omega, List.replicate_succ, List.set_cons_zero, take_snoc (List.getElem?_eq_getElem h1), List.append_assoc]
  simp [List.getD, h1]

set_option maxHeartbeats 1000000 in
theorem padded_any (n0 : Nat) (v : Value) (l : List Int) (w : World) (h : Arg n0 w v l) (hl : l.length ≤ 64) :
    Calls Try.prog 36 #[v] w fun e w' => e = .returned (.slice (some ⟨w.heap.size, 0, none⟩) 64 64) ∧ w'.ownsRow w.heap.size 5 1 (.slice (some ⟨w.heap.size, 0, none⟩) 64 64) 64 ((pad l).map (Value.int .u8)) ∧ Below w.heap.size w w' := by
  obtain ⟨a, cap, rfl, _, _, _⟩ := h.shape
  have hmk := make64
  have hl1 := run_len Try.underlying26 a l.length cap
  obtain ⟨i5, hi5, _, hz5, _⟩ := info_parts Try.info5
  have HA : Hid (Arg n0 w (.slice a l.length cap) l) := h
  obtain ⟨n, hn⟩ : ∃ n, n = l.length := ⟨_, rfl⟩
  have HN : Hid (n = l.length ∧ l.length ≤ 64) := ⟨hn, hl⟩
  rw [← hn] at HA hl1 hl ⊢
  clear h hn
  go_enter Try.func36, Try.ntmps36
  go_wp2
  go_loopw [4] (fun i wr => ∃ k : Nat, k ≤ n ∧ i = .int .i64 k ∧ wr.ownsRow w.heap.size 5 1 (.slice (some ⟨w.heap.size, 0, none⟩) 64 64) 64 ((part l k).map (Value.int .u8)) ∧ Below w.heap.size w wr) (fun i _ => n - (intOf i).toNat)
  case atStart =>
    refine ⟨0, Nat.zero_le _, rfl, ?_, (Below.refl _ w).alloc (Nat.le_refl _) _⟩
    rw [part_zero]
    exact alloc64_own w w.heap.size (Nat.le_refl _)
  case round =>
    obtain ⟨k, hk, rfl, hown, hbel⟩ := hrel
    by_cases hlt : k < n
    · obtain ⟨b, o, cp, hv, _, _, _, hce⟩ := (HA.out.below hbel).1.place (by omega) k (by rw [← HN.out.1]; exact hlt)
      obtain ⟨rfl, hq, rfl⟩ := Value.slice.inj hv
      clear hq hv
      have hce0 := hce 0 (.int .u8 (l.getD k 0)) (by
        have : k < l.length := by rw [← HN.out.1]; exact hlt
        simp [this])
      rw [Nat.mul_one, Nat.add_zero] at hce0
      have hix : ∀ W, (Instr.indexAt 26 (.slice (some ⟨b, o, none⟩) n cap) (.int .i64 (k : Int))).run Try.prog W = .ok (.pointer (some ⟨b, o + k, none⟩)) W := fun W => by
        have := run_index Try.underlying26 hi5 hz5 b o n cap k hlt W
        rwa [Nat.mul_one] at this
      have hf := hown.frozenAt k
      have hcw : wr.cell? ⟨w.heap.size, k, none⟩ = some (.int .u8 ((part l k).getD k 0)) := by
        have hkl : k < (part l k).length := by rw [part_len l k (by have := HN.out; omega) HN.out.2]; omega
        rw [hown.cellAt k (by omega), List.getElem?_map, List.getElem?_eq_getElem hkl]
        simp [List.getElem?_eq_getElem hkl]
      have hS := (hown.stored k (.int .u8 (l.getD k 0))).1
      have hb2 : Below w.heap.size w (wr.setCell ⟨w.heap.size, k, none⟩ (.int .u8 (l.getD k 0))) := hbel.setCell (p := ⟨w.heap.size, k, none⟩) (Nat.le_refl _) _
      rw [← List.map_set, part_step l k (by have := HN.out; omega) HN.out.2] at hS
      obtain ⟨x, hx⟩ : ∃ x, x = l.getD k 0 := ⟨_, rfl⟩
      obtain ⟨y, hy⟩ : ∃ y, y = (part l k).getD k 0 := ⟨_, rfl⟩
      rw [← hx] at hce0 hS hb2
      rw [← hy] at hcw
      have hki : (k : Int) < (n : Int) := by omega
      clear hce hown hbel hx hy
      go_wp2
      go_roundw
      case rel => exact ⟨k + 1, by omega, by go_num, hS, hb2⟩
      case measure => simp [intOf]; omega
    · obtain rfl : k = n := by omega
      rw [HN.out.1, part_all] at hown
      go_wp2
      go_ret
      exact ⟨rfl, hown, hbel⟩

end Go.Proofs.Ytkeaillmcfnnkaa
