/-
  What strings.ContainsAny answers of the two octets that no name has: whether one of them is there; for every text.
-/
import Derived.Test.YtedbnmiedknfjaaRune
import Derived.Deep.LoopGhost
namespace Go.Proofs.Ytedbnmiedknfjaa
open Go.RowKit Go.Shelf Go.Lib

/-- What is decoded where the first octet is 128 or more: all its octets are. -/
theorem decode_span (s : ByteArray) (pos : Nat) (h : pos < s.size) (ha : 128 ≤ (s[pos]'h).toNat) (k : Nat) : k < (Utf8.decode s pos).2 → pos + k < s.size ∧ 128 ≤ (s.get! (pos + k)).toNat := by
  have e0 : (s.get! pos).toNat = (s[pos]'h).toNat := congrArg UInt8.toNat (get_at s pos h)
  have h0 : ¬ (s.get! pos).toNat < 128 := by omega
  have hz : k = 0 → pos + k < s.size ∧ 128 ≤ (s.get! (pos + k)).toNat := fun e => by
    subst e
    exact ⟨h, by rw [Nat.add_zero]; omega⟩
  simp only [Utf8.decode, Nat.add_zero]
  rw [if_neg h0]
  split
  · rename_i hc
    simp only [Bool.and_eq_true, decide_eq_true_eq, beq_iff_eq] at hc
    split
    · intro hk
      rcases (show k = 0 ∨ k = 1 by omega) with rfl | rfl
      · exact hz rfl
      · exact ⟨hc.2.1, by have := hc.2.2; omega⟩
    · intro hk
      exact hz (by omega)
  · split
    · rename_i hc
      simp only [Bool.and_eq_true, decide_eq_true_eq, beq_iff_eq] at hc
      split
      · intro hk
        rcases (show k = 0 ∨ k = 1 ∨ k = 2 by omega) with rfl | rfl | rfl
        · exact hz rfl
        · exact ⟨hc.1.2.1, by have := hc.1.2.2; omega⟩
        · exact ⟨hc.2.1, by have := hc.2.2; omega⟩
      · intro hk
        exact hz (by omega)
    · split
      · rename_i hc
        simp only [Bool.and_eq_true, decide_eq_true_eq, beq_iff_eq] at hc
        split
        · intro hk
          rcases (show k = 0 ∨ k = 1 ∨ k = 2 ∨ k = 3 by omega) with rfl | rfl | rfl | rfl
          · exact hz rfl
          · exact ⟨hc.1.1.2.1, by have := hc.1.1.2.2; omega⟩
          · exact ⟨hc.1.2.1, by have := hc.1.2.2; omega⟩
          · exact ⟨hc.2.1, by have := hc.2.2; omega⟩
        · intro hk
          exact hz (by omega)
      · intro hk
        exact hz (by omega)

abbrev two : List UInt8 := [0, 47]
theorem two_high (b : UInt8) (h : 128 ≤ b.toNat) : two.contains b = false := by
  rw [Bool.eq_false_iff]
  intro hc
  simp [two] at hc
  rcases hc with rfl | rfl <;> simp at h

theorem noAny_span {s : ByteArray} {i n : Nat} (h : NoAny s.data.toList two i) (hs : ∀ k, k < n → i + k < s.size ∧ 128 ≤ (s.get! (i + k)).toNat) : NoAny s.data.toList two (i + n) := fun j b hj hb => by
  by_cases c : j < i
  · exact h j b c hb
  · obtain ⟨h1, h2⟩ := hs (j - i) (by omega)
    rw [show i + (j - i) = j by omega] at h1 h2
    have e : s.get! j = b := by
      have h3 := get_at s j h1
      rw [Nat.add_zero] at h3
      rw [h3]
      have h4 := Lib.data_getElem? s j h1
      rw [hb] at h4
      exact (Option.some.inj h4).symm
    rw [e] at h2
    exact two_high b h2

theorem index_two (b : UInt8) : (0 ≤ Lib.indexByte two b ↔ two.contains b = true) := by
  have := Lib.contains_iff_indexByte two b
  rw [this]
  simp

set_option maxRecDepth 100000 in
set_option maxHeartbeats 4000000 in
theorem any_short (s : ByteArray) (w : World) (h8 : s.size ≤ 8) : Calls Try.prog 36 #[.string s, .string ⟨#[0, 47]⟩] w fun e w' => e = .returned (.int .i64 (Lib.indexAny s.data.toList two)) ∧ Below w.heap.size w w' := by
  have h8z : ¬ (8 : Int) < (s.size : Int) := by omega
  have h8b : decide ((8 : Int) < (s.size : Int)) = false := decide_eq_false h8z
  have HS : Hid (∀ W, Calls Try.prog 41 #[.int .i64 (s.size : Int)] W fun e w' => e = .returned (.bool false) ∧ w' = W) := fun W => by
    have := Any.strings_shouldUseASCIISet (P := Try.prog) (ρ := anyL_ren) { anyL with } (s.size : Int) W
    rw [h8b] at this
    exact this
  have HB0 : Hid (Below w.heap.size w (w.iter s 0)) := (Below.refl _ w).alloc (Nat.le_refl _) _
  clear h8b
  go_enter Try.func36, Try.ntmps36
  go_wp2_with (go_at_call 41; refine (HS.out _).mono ?_; rintro e w' ⟨rfl, hw⟩; rw [hw])
  go_loopg [9, 10] s.size (fun g _ _ wx => ∃ i : Nat, i + g = s.size ∧ wx.heap[w.heap.size]? = some (.stringIter s i) ∧ Below w.heap.size w wx ∧ NoAny s.data.toList two i)
  case atStart => exact ⟨0, by omega, World.iter_heap _ _ _, HB0.out, NoAny.zero _ _⟩
  case round =>
    obtain ⟨i, hig, hit, hbel, hno⟩ := hrel
    have HN : Hid (NoAny s.data.toList two i) := hno
    have HBL : Hid (Below w.heap.size w wr) := hbel
    clear hno hbel
    by_cases hi : i < s.size
    · by_cases hx : (s[i]'hi).toNat < 128
      · have hnx := fun ty => run_next_ascii_at (P := Try.prog) wr w.heap.size s i ty hit hi hx
        obtain ⟨x, hxx⟩ : ∃ x : UInt8, s[i]'hi = x := ⟨_, rfl⟩
        have Hx : Hid (s.data.toList[i]? = some x) := by
          show _ = _
          rw [← hxx]; exact Lib.data_getElem? s i hi
        rw [hxx] at hnx hx
        obtain ⟨W, hW⟩ : ∃ W, W = wr.iterAt w.heap.size s (i + 1) := ⟨_, rfl⟩
        rw [← hW] at hnx
        have HW : Hid (W.heap[w.heap.size]? = some (.stringIter s (i + 1)) ∧ Below w.heap.size w W) := by
          show _ ∧ _
          rw [hW]; exact ⟨iterAt_heap wr _ s i (i + 1) hit, below_iterAt HBL.out (Nat.le_refl _) s _⟩
        have HR : Hid (Calls Try.prog 40 #[.string ⟨#[0, 47]⟩, .int .i32 (x.toNat : Int)] W fun e w' => e = .returned (.int .i64 (Lib.indexByte two x)) ∧ w' = W) := by
          have := rune_low ⟨#[0, 47]⟩ (x.toNat : Int) W (by omega) (by omega)
          rw [show ((x.toNat : Int)).toNat.toUInt8 = x by simp] at this
          exact this
        obtain ⟨y, hy⟩ : ∃ y, y = Lib.indexByte two x := ⟨_, rfl⟩
        rw [← hy] at HR
        clear hW hxx
        by_cases hin : 0 ≤ y
        · have HI : Hid (Lib.indexAny s.data.toList two = i) := Lib.indexAny_hit HN.out Hx.out ((index_two x).1 (by rw [← hy]; exact hin))
          clear hy
          go_wp2_with (go_at_call 40; refine HR.out.mono ?_; rintro e w' ⟨rfl, hw⟩; rw [hw])
          go_ret
          exact ⟨by rw [HI.out]; rfl, HW.out.2⟩
        · have HI : Hid (two.contains x = false) := by
            show _ = _
            rw [Bool.eq_false_iff]
            intro hc
            exact hin (by rw [hy]; exact (index_two x).2 hc)
          clear hy
          go_wp2_with (go_at_call 40; refine HR.out.mono ?_; rintro e w' ⟨rfl, hw⟩; rw [hw])
          go_roundg (s.size - (i + 1))
          case measure => omega
          case rel => exact ⟨i + 1, by omega, HW.out.1, HW.out.2, HN.out.succ Hx.out HI.out⟩
      · have hnx := fun ty => run_next_any_at (P := Try.prog) wr w.heap.size s i ty hit hi
        obtain ⟨h1, h2⟩ := decode_high s i hi (by omega)
        have hsp := decode_span s i hi (by omega)
        have hle := decode_le s i
        obtain ⟨r, hr⟩ : ∃ r, r = (Utf8.decode s i).1 := ⟨_, rfl⟩
        obtain ⟨n, hn⟩ : ∃ n, n = (Utf8.decode s i).2 := ⟨_, rfl⟩
        rw [← hr, ← hn] at hnx
        rw [← hr] at h1 hle
        rw [← hn] at h2 hsp
        have hend := (hsp (n - 1) (by omega)).1
        obtain ⟨W, hW⟩ : ∃ W, W = wr.iterAt w.heap.size s (i + n) := ⟨_, rfl⟩
        rw [← hW] at hnx
        have HW : Hid (W.heap[w.heap.size]? = some (.stringIter s (i + n)) ∧ Below w.heap.size w W) := by
          show _ ∧ _
          rw [hW]; exact ⟨iterAt_heap wr _ s i (i + n) hit, below_iterAt HBL.out (Nat.le_refl _) s _⟩
        have HR : Hid (Calls Try.prog 40 #[.string ⟨#[0, 47]⟩, .int .i32 (r : Int)] W fun e w' => e = .returned (.int .i64 (-1)) ∧ Below W.heap.size W w') := rune_high (r : Int) W (by omega)
        have HNN : Hid (NoAny s.data.toList two (i + n)) := noAny_span HN.out hsp
        clear hW hr hn hsp
        go_wp2_with (go_at_call 40; refine HR.out.mono ?_; rintro e w' ⟨rfl, hw⟩)
        go_roundg (s.size - (i + n))
        case measure => omega
        case rel =>
          have hlt : w.heap.size < W.heap.size := (Array.getElem?_eq_some_iff.1 HW.out.1).1
          exact ⟨i + n, by omega, by rw [hw.block _ hlt]; exact HW.out.1, below_any HW.out.2 hw, HNN.out⟩
    · have hnx := fun ty => run_next_end_at (P := Try.prog) wr w.heap.size s i ty hit hi
      have HI : Hid (Lib.indexAny s.data.toList two = -1) := Lib.indexAny_none (by rw [← Lib.size_eq, show s.size = i by omega]; exact HN.out)
      go_wp2
      go_ret
      exact ⟨by rw [HI.out]; rfl, HBL.out⟩

theorem set79 : (Try.prog.info? (anyL_ren.t 116)).map (fun i => (i.zero, i.size)) = some (some (.agg (Array.replicate 256 (.bool false))), 256) := by kernel_rfl

theorem any_long (s : ByteArray) (w : World) (h8 : 8 < s.size) (hs : s.size < 4294967281) : Calls Try.prog 36 #[.string s, .string ⟨#[0, 47]⟩] w fun e w' => e = .returned (.int .i64 (Lib.indexAny s.data.toList two)) ∧ Below w.heap.size w w' :=
  (Any.strings_IndexAny_long (P := Try.prog) (ρ := anyL_ren) anyL (zero_of_info set79).1 (zero_of_info set79).2 s ⟨#[0, 47]⟩ w (by decide) h8 hs (by decide) (fun j b hb => by
    have hm := List.mem_of_getElem? hb
    simp at hm
    rcases hm with rfl | rfl <;> decide)).mono fun e w' h => ⟨h.1, by rw [h.2]; exact ((Below.refl _ w).alloc (Nat.le_refl _) _).alloc (by simp) _⟩

set_option maxHeartbeats 400000 in
theorem contains_any (s : ByteArray) (w : World) (hs : s.size < 4294967281) : Calls Try.prog 30 #[.string s, .string ⟨#[0, 47]⟩] w fun e w' => e = .returned (.bool (Lib.containsAny s.data.toList two)) ∧ Below w.heap.size w w' := by
  have HC : Hid (Calls Try.prog 36 #[.string s, .string ⟨#[0, 47]⟩] w fun e w' => e = .returned (.int .i64 (Lib.indexAny s.data.toList two)) ∧ Below w.heap.size w w') := by
    by_cases h8 : 8 < s.size
    · exact any_long s w h8 hs
    · exact any_short s w (by omega)
  go_enter Try.func30, Try.ntmps30
  go_wp2_with (go_at_call 36; refine HC.out.mono ?_; rintro e w' ⟨rfl, hw⟩)
  go_ret
  exact ⟨rfl, hw⟩

end Go.Proofs.Ytedbnmiedknfjaa
