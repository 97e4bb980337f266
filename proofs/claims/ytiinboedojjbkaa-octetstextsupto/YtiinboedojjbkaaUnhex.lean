/-
  What octets.Unhex answers: for every text (up to 2^48 letters), in every memory: ErrDigit where a byte is no digit, else ErrShort where their number is odd, else the octets, in memory of their own; what was in memory stays.
-/
import Derived.Test.YtiinboedojjbkaaRows
import Derived.Test.YtiinboedojjbkaaHexMath
import Derived.Test.YtiinboedojjbkaaPut
import Derived.WalkKit
import Derived.WalkSpells
import Derived.ProofKit
import Derived.Lib.OthersKept
import Derived.WalkSmall
namespace Go.Proofs.Ytiinboedojjbkaa
open Go.RowKit

set_option maxHeartbeats 400000 in
theorem dv_yes (r : Int) (w : World) (h : 0 ≤ worth r) :
    Calls Try.prog 30 #[.int .i32 r] w fun e w' => e = .returned (.tuple #[.int .u8 (worth r), .bool true]) ∧ w = w' := by
  unfold worth at h ⊢
  by_cases h1 : 48 ≤ r ∧ r ≤ 57
  · rw [if_pos h1]
    obtain ⟨h1, h2⟩ := h1
    clear h
    go_enter Try.func30, Try.ntmps30
    go_wp2
    go_ret2
    exact ⟨rfl, rfl⟩
  · rw [if_neg h1] at h ⊢
    by_cases h2 : 97 ≤ r ∧ r ≤ 102
    · rw [if_pos h2]
      obtain ⟨h3, h4⟩ := h2
      clear h h1
      have e : r - 87 = r - 97 + 10 := by omega
      rw [e]
      go_enter Try.func30, Try.ntmps30
      go_wp2
      go_ret2
      exact ⟨rfl, rfl⟩
    · rw [if_neg h2] at h ⊢
      by_cases h3 : 65 ≤ r ∧ r ≤ 70
      · rw [if_pos h3]
        obtain ⟨h3, h4⟩ := h3
        clear h h1 h2
        have e : r - 55 = r + 32 - 97 + 10 := by omega
        rw [e]
        go_enter Try.func30, Try.ntmps30
        go_wp2
        go_ret2
        exact ⟨rfl, rfl⟩
      · rw [if_neg h3] at h; omega

set_option maxHeartbeats 400000 in
theorem dv_no (r : Int) (w : World) (h : worth r < 0) :
    Calls Try.prog 30 #[.int .i32 r] w fun e w' => e = .returned (.tuple #[.int .u8 0, .bool false]) ∧ w = w' := by
  have hr : r < 48 ∨ (58 ≤ r ∧ r < 65) ∨ (71 ≤ r ∧ r < 97) ∨ 103 ≤ r := by
    unfold worth at h
    split at h <;> (try split at h) <;> (try split at h) <;> omega
  clear h
  rcases hr with h | ⟨h, h'⟩ | ⟨h, h'⟩ | h
  · go_enter Try.func30, Try.ntmps30
    go_wp2
    go_ret2
    exact ⟨rfl, rfl⟩
  · go_enter Try.func30, Try.ntmps30
    go_wp2
    go_ret2
    exact ⟨rfl, rfl⟩
  · go_enter Try.func30, Try.ntmps30
    go_wp2
    go_ret2
    exact ⟨rfl, rfl⟩
  · go_enter Try.func30, Try.ntmps30
    go_wp2
    go_ret2
    exact ⟨rfl, rfl⟩

theorem or_fin : ∀ a b : Fin 16, bits .or .u8 (16 * (a.val : Int)) (b.val : Int) = 16 * (a.val : Int) + b.val := by decide +kernel
theorem or_nibble (a b : Int) (ha : 0 ≤ a) (ha' : a ≤ 15) (hb : 0 ≤ b) (hb' : b ≤ 15) : bits .or .u8 (16 * a) b = 16 * a + b := by
  have := or_fin ⟨a.toNat, by omega⟩ ⟨b.toNat, by omega⟩
  simp only [Int.toNat_of_nonneg ha, Int.toNat_of_nonneg hb] at this
  exact this

/-- The letters of a text, as numbers. -/
def lets (s : ByteArray) : List Int := s.data.toList.map fun b => (b.toNat : Int)
@[simp] theorem lets_length (s : ByteArray) : (lets s).length = s.size := by unfold lets; rw [List.length_map, Array.length_toList]; rfl
theorem lets_get (s : ByteArray) (p : Nat) (h : p < s.size) : (lets s).getD p 0 = ((s[p]'h).toNat : Int) := by
  have hl : p < s.data.toList.length := by rw [Array.length_toList]; exact h
  simp only [lets, List.getD, List.getElem?_map, List.getElem?_eq_getElem hl, Option.map_some, Option.getD_some]
  rfl

/-- One step of the iterator: the rune that comes is a digit just where the byte is one, and then it is that byte. -/
theorem next_step (w : World) (k : Nat) (s : ByteArray) (p : Nat) (hk : w.heap[k]? = some (.stringIter s p)) (h : p < s.size) :
    ∃ (r : Int) (q : Nat), (∀ ty, (Instr.next (.pointer (some ⟨k, 0, none⟩)) true ty).run Try.prog w = .ok (.tuple #[.bool true, .int .i64 p, .int .i32 r]) (w.iterAt k s q)) ∧
      (0 ≤ worth ((lets s).getD p 0) → r = (lets s).getD p 0 ∧ q = p + 1) ∧ (worth ((lets s).getD p 0) < 0 → worth r < 0) := by
  rw [lets_get s p h]
  by_cases ha : (s[p]'h).toNat < 128
  · refine ⟨((s[p]'h).toNat : Int), p + 1, fun ty => Lib.run_next_ascii_at w k s p ty hk h ha, fun _ => ⟨rfl, rfl⟩, fun c => c⟩
  · refine ⟨((Utf8.decode s p).1 : Nat), p + (Utf8.decode s p).2, fun ty => Lib.run_next_any_at w k s p ty hk h, fun c => ?_, fun _ => ?_⟩
    · rw [worth_high _ (by omega)] at c; omega
    · have := (decode_high s p h (by omega)).1
      rw [worth_high _ (by omega)]; omega

set_option maxHeartbeats 1000000 in
theorem unhex_any (s : ByteArray) (w : World) (hs : s.size ≤ 281474976710656) :
    Calls Try.prog 19 #[.string s] w fun e w' => ∃ v, e = .returned (.tuple #[v, .int .i64 (uerr (lets s))]) ∧
      w'.ownsRow w.heap.size 5 1 v (uout (lets s)).length ((uout (lets s)).map (Value.int .u8)) ∧ Below w.heap.size w w' := by
  obtain ⟨i0, hi, hz0, hz1, hz2⟩ := info_parts Try.info5
  go_enter Try.func19, Try.ntmps19
  go_wp2_with (at_make; refine wpList_make_own _ rfl _ _ 23 rfl w.heap.size 5 i0 (.int .u8 0) 1 Try.underlying23 hi hz0 hz1 _ _ _ (s.size / 2) rfl rfl (by omega) (by rw [hz2]; omega) (by unfold maxLen; omega) (Nat.le_refl _) ?_; intro w1 hown hgrow)
  have hKB : w.heap.size < w1.heap.size := by
    rcases hown.2 with ⟨h, _⟩ | ⟨g, cap, cur, h, _, hh, _⟩
    · cases h
    · cases h
      exact (Array.getElem?_eq_some_iff.1 hh).1
  have hb0 : Below w.heap.size w (w1.iter s 0) := ((Below.refl _ _).grown hgrow (Nat.le_refl _) (fun _ h => by cases h)).alloc (by omega) _
  have hit0 := World.iter_heap w1 s 0
  have hown0 : (w1.iter s 0).ownsRow w.heap.size 5 1 (.slice (some ⟨w.heap.size, 0, none⟩) 0 (s.size / 2)) 0 [] := hown.alloc _
  obtain ⟨K, hK⟩ : ∃ K, K = w1.heap.size := ⟨_, rfl⟩
  obtain ⟨W0, hW0⟩ : ∃ W0, W0 = w1.iter s 0 := ⟨_, rfl⟩
  rw [← hK] at hKB hit0 ⊢
  rw [← hW0] at hb0 hit0 hown0 ⊢
  clear hK hW0 hown hgrow
  go_loopw [4, 5] (fun v x wr => ∃ p : Nat, p ≤ s.size ∧ (∀ i, i < p → 0 ≤ worth ((lets s).getD i 0)) ∧ wr.heap[K]? = some (.stringIter s p) ∧ v = .slice (some ⟨w.heap.size, 0, none⟩) (p / 2) (s.size / 2) ∧
      wr.ownsRow w.heap.size 5 1 (.slice (some ⟨w.heap.size, 0, none⟩) (p / 2) (s.size / 2)) (p / 2) ((pairs (lets s) (p / 2)).map (Value.int .u8)) ∧
      (∃ y : Int, x = .int .u8 y ∧ (p % 2 = 1 → y = 16 * worth ((lets s).getD (p - 1) 0))) ∧ Below w.heap.size w wr) (fun _ _ wr => s.size - wr.iterPos K)
  case atStart => exact ⟨0, Nat.zero_le _, fun i h => by omega, hit0, rfl, hown0, ⟨0, rfl, fun h => by omega⟩, hb0⟩
  case round =>
    obtain ⟨p, hp, hall, hit, rfl, hown, ⟨y, rfl, hy⟩, hbel⟩ := hrel
    have hpos0 := iterPos_of hit
    by_cases hlt : p < s.size
    · obtain ⟨r, q, hnx, hyes, hno⟩ := next_step wr K s p hit hlt
      have hit2 := Lib.iterAt_heap wr K s p q hit
      have hbel2 := Lib.below_iterAt hbel (k := K) (by omega) s q
      have hown2 : (wr.iterAt K s q).ownsRow w.heap.size 5 1 (.slice (some ⟨w.heap.size, 0, none⟩) (p / 2) (s.size / 2)) (p / 2) ((pairs (lets s) (p / 2)).map (Value.int .u8)) := by
        obtain ⟨g1, g2⟩ := hown
        refine ⟨g1, ?_⟩
        rcases g2 with g2 | ⟨g, cap, cur, a, b, c, d⟩
        · exact .inl g2
        · exact .inr ⟨g, cap, cur, a, b, by rw [Lib.iterAt_other _ _ _ _ _ (by cases a; omega)]; exact c, d⟩
      obtain ⟨W1, hW1⟩ : ∃ W1, W1 = wr.iterAt K s q := ⟨_, rfl⟩
      rw [← hW1] at hnx hit2 hbel2 hown2
      clear hW1 hit hown hbel
      by_cases hw : 0 ≤ worth ((lets s).getD p 0)
      · obtain ⟨hr, hq⟩ := hyes hw
        subst hq
        obtain ⟨d, hd⟩ : ∃ d, d = worth ((lets s).getD p 0) := ⟨_, rfl⟩
        have hdv : ∀ w, Calls Try.prog 30 #[.int .i32 r] w fun e w' => e = .returned (.tuple #[.int .u8 d, .bool true]) ∧ w = w' := fun w => by
          have := dv_yes r w (by rw [hr]; exact hw)
          rw [hr, ← hd] at this
          rw [hr]; exact this
        have hd0 : 0 ≤ d := by omega
        have hd1 : d ≤ 15 := by rw [hd]; exact worth_le _
        have HD : Hid (d = worth ((lets s).getD p 0)) := hd
        have hall2 : ∀ i, i < p + 1 → 0 ≤ worth ((lets s).getD i 0) := fun i hi => by
          rcases Nat.lt_succ_iff_lt_or_eq.1 hi with c | c
          · exact hall i c
          · rw [c]; exact hw
        clear hyes hno hd hr hw
        rcases Nat.mod_two_eq_zero_or_one p with hpar | hpar
        · clear hy
          go_wp2_with (go_at_call 30; refine (hdv _).mono ?_; rintro e w' ⟨rfl, rfl⟩)
          go_roundw
          case rel =>
            have e2 : (p + 1) / 2 = p / 2 := by omega
            refine ⟨p + 1, by omega, hall2, hit2, by rw [e2], by rw [e2]; exact hown2, ⟨d * 16, rfl, fun _ => by rw [HD.out, Nat.add_sub_cancel]; omega⟩, hbel2⟩
          case measure => rw [iterPos_of hit2, hpos0]; omega
        · have HY : Hid (y = 16 * worth ((lets s).getD (p - 1) 0)) := hy hpar
          have ha0 := hall (p - 1) (by omega)
          clear hy hall
          go_wp2_with (first
            | (go_at_call 30; refine (hdv _).mono ?_; rintro e w' ⟨rfl, rfl⟩)
            | (at_builtin; refine wpList_append_fits _ rfl (.tmp 32) (.tmp 36) 23 rfl w.heap.size 5 i0 1 Try.underlying23 hi hz1 w.heap.size (p / 2) (s.size / 2) _ rfl (hown2.alloc _) ⟨W1.heap.size, 0, none⟩ 1 1 [.int .u8 (bits .or .u8 y d)] rfl rfl (cell_one_new _ _ _) (fun u hu => by simp at hu; subst hu; rfl) (by omega) ?_; intro w3 hown3 hgrow3))
          have hKlt := (Array.getElem?_eq_some_iff.1 hit2).1
          have hit3 : w3.heap[K]? = some (.stringIter s (p + 1)) := by
            rw [hgrow3.block K (by simp; omega) (fun h => by cases h; omega), Below.heap_alloc _ _ _ hKlt]; exact hit2
          have hbel3 : Below w.heap.size w w3 := (hbel2.alloc (by omega) _).grown hgrow3 (by simp; omega) (fun k h => by cases h; omega)
          have hrow : (pairs (lets s) (p / 2)).map (Value.int .u8) ++ [.int .u8 (bits .or .u8 y d)] = (pairs (lets s) ((p + 1) / 2)).map (Value.int .u8) := by
            rw [show (p + 1) / 2 = p / 2 + 1 by omega, pairs_succ, List.map_append, HY.out, or_nibble _ _ ha0 (worth_le _) hd0 hd1, HD.out, show 2 * (p / 2) = p - 1 by omega, show p - 1 + 1 = p by omega]
            rfl
          rw [hrow] at hown3
          clear hown2 hit2 hgrow3 hrow ha0
          go_wp2
          go_roundw
          case rel =>
            have e2 : (p + 1) / 2 = p / 2 + 1 := by omega
            refine ⟨p + 1, by omega, hall2, hit3, by rw [e2], by rw [e2] at hown3 ⊢; exact hown3, ⟨y, rfl, fun h => by omega⟩, hbel3⟩
          case measure => rw [iterPos_of hit3, hpos0]; omega
      · have hdv := fun w => dv_no r w (hno (by omega))
        have herr := uerr_bad (L := lets s) (i := p) (by simpa using hlt) (by omega)
        clear hyes hno hw
        go_wp2_with (go_at_call 30; refine (hdv _).mono ?_; rintro e w' ⟨rfl, rfl⟩)
        go_ret2
        exact ⟨.slice none 0 0, by rw [herr.1]; rfl, by rw [herr.2]; exact World.ownsRow_nil _ _ _ _, hbel2⟩
    · have hnx : ∀ ty, (Instr.next (.pointer (some ⟨K, 0, none⟩)) true ty).run Try.prog wr = _ := fun ty => Lib.run_next_end_at wr K s p ty hit hlt
      have hpe : p = s.size := by omega
      subst hpe
      rcases Nat.mod_two_eq_zero_or_one s.size with hpar | hpar
      · have herr := uerr_ok (L := lets s) (by simpa using hall) (by simpa using hpar)
        have hl : (uout (lets s)).length = s.size / 2 := by rw [herr.2, pairs_length, lets_length]
        rw [← lets_length, ← herr.2, lets_length] at hown
        have H1 : Hid (uerr (lets s) = 0) := herr.1
        clear herr hall hy
        go_wp2
        go_ret2
        exact ⟨.slice (some ⟨w.heap.size, 0, none⟩) (s.size / 2) (s.size / 2), by rw [H1.out]; rfl, by rw [hl]; exact hown, hbel⟩
      · have herr := uerr_odd (L := lets s) (by simpa using hall) (by simpa using hpar)
        clear hall hy
        go_wp2
        go_ret2
        exact ⟨.slice none 0 0, by rw [herr.1]; rfl, by rw [herr.2]; exact World.ownsRow_nil _ _ _ _, hbel⟩

end Go.Proofs.Ytiinboedojjbkaa
