/-
  Plain mathematics: of two numbers as equally many octets, the highest first, the lesser one's come first; a slice's octets as a text.
-/
import Derived.Test.YtiinboedojjbkaaMath
import Derived.Test.YtiinboedojjbkaaSame
import Derived.Laws.BytesArg
namespace Go.Proofs.Ytiinboedojjbkaa

theorem oct_succ (n k : Nat) : oct n (k + 1) = ((n / 256 ^ k % 256 : Nat) : Int) :: oct n k := by
  unfold oct
  rw [List.range_succ_eq_map, List.map_cons, List.map_map]
  congr 1
  apply List.map_congr_left
  intro t ht
  simp only [Function.comp]
  rw [show k + 1 - 1 - t.succ = k - 1 - t by omega]

theorem u8_lt (a b : Nat) (ha : a < 256) (hb : b < 256) : (UInt8.ofNat a < UInt8.ofNat b) ↔ a < b := by
  rw [UInt8.lt_iff_toNat_lt, UInt8.toNat_ofNat', UInt8.toNat_ofNat', Nat.mod_eq_of_lt ha, Nat.mod_eq_of_lt hb]

theorem u8_eq (a b : Nat) (ha : a < 256) (hb : b < 256) : (UInt8.ofNat a = UInt8.ofNat b) ↔ a = b := by
  constructor
  · intro h
    have := congrArg UInt8.toNat h
    rwa [UInt8.toNat_ofNat', UInt8.toNat_ofNat', Nat.mod_eq_of_lt ha, Nat.mod_eq_of_lt hb] at this
  · rintro rfl; rfl

theorem mul_step (P x y u v : Nat) (hu : u < P) (hv : v < P) : (u + P * x < v + P * y) ↔ (x < y ∨ x = y ∧ u < v) := by
  constructor
  · intro h
    rcases Nat.lt_trichotomy x y with c | c | c
    · exact .inl c
    · subst c; exact .inr ⟨rfl, by omega⟩
    · exfalso
      have : P * (y + 1) ≤ P * x := Nat.mul_le_mul_left _ c
      rw [Nat.mul_add, Nat.mul_one] at this
      omega
  · rintro (c | ⟨rfl, c⟩)
    · have : P * (x + 1) ≤ P * y := Nat.mul_le_mul_left _ c
      rw [Nat.mul_add, Nat.mul_one] at this
      omega
    · omega

theorem less_oct (a b : Nat) : ∀ k, Op.bytesLess ((oct a k).map fun n => UInt8.ofNat n.toNat) ((oct b k).map fun n => UInt8.ofNat n.toNat) = decide (a % 256 ^ k < b % 256 ^ k) := by
  intro k
  induction k with
  | zero => simp [oct, Op.bytesLess, Nat.mod_one]
  | succ k ih =>
    rw [oct_succ, oct_succ, List.map_cons, List.map_cons, Op.bytesLess, ih]
    simp only [Int.toNat_natCast]
    have ha : a / 256 ^ k % 256 < 256 := Nat.mod_lt _ (by decide)
    have hb : b / 256 ^ k % 256 < 256 := Nat.mod_lt _ (by decide)
    have hp : 0 < 256 ^ k := Nat.pow_pos (by decide)
    rw [Bool.eq_iff_iff]
    simp only [Bool.or_eq_true, Bool.and_eq_true, decide_eq_true_eq, beq_iff_eq, u8_lt _ _ ha hb, u8_eq _ _ ha hb]
    rw [Nat.mod_pow_succ, Nat.mod_pow_succ, mul_step _ _ _ _ _ (Nat.mod_lt _ hp) (Nat.mod_lt _ hp)]

theorem less_strs (a b k : Nat) (ha : a < 256 ^ k) (hb : b < 256 ^ k) : Op.bytesLess (strOfNums (oct a k)).toList (strOfNums (oct b k)).toList = decide (a < b) := by
  rw [ByteArray.toList_eq, ByteArray.toList_eq, strOfNums_data, strOfNums_data, less_oct, Nat.mod_eq_of_lt ha, Nat.mod_eq_of_lt hb]

theorem conv_bytes {w : World} {v : Value} {l : List Int} (h : Bytes w v l) : (convert 23 9 v).run Try.prog w = .ok (.string (strOfNums l)) w := by
  obtain ⟨⟨a, cap, rfl, hc⟩, _, _⟩ := h
  by_cases h0 : l.length = 0
  · obtain rfl := List.eq_nil_of_length_eq_zero h0
    cases a with
    | none => exact run_convert_bytes_nil w 23 5 Try.underlying23 Try.underlying5 _ _ 9 Try.underlying9
    | some x =>
      rw [run_convert_bytes_string w 23 9 5 _ _ cap Try.underlying23 Try.underlying5 Try.underlying9]
      have := run_bytesToString (P := Try.prog) w x 0 cap [] (by simpa using run_loadCells_list (P := Try.prog) w x [] (fun j v hj => by simp at hj))
      exact this
  · obtain ⟨b, off, rfl, hcell⟩ := hc h0
    exact run_convert_bytes_arg w 23 5 Try.underlying23 Try.underlying5 b off l.length cap l rfl hcell 9 Try.underlying9

end Go.Proofs.Ytiinboedojjbkaa
