/-
  What path.Join and the document's Join answer; for all lists of texts.
-/
import Derived.Test.YtedbnmiedknfjaaRSplit
namespace Go.Proofs.Ytedbnmiedknfjaa
open Go.RowKit Go.Shelf

/-- The texts as lists of octets. -/
def dl (l : List ByteArray) : List (List UInt8) := l.map (·.data.toList)
theorem dl_length (l : List ByteArray) : (dl l).length = l.length := by simp [dl]
theorem dl_snoc (l : List ByteArray) (x : ByteArray) : dl (l ++ [x]) = dl l ++ [x.data.toList] := by simp [dl]
/-- The path of names. -/
def jt (l : List ByteArray) : ByteArray := bk (jp (dl l))
/-- Join's error, and the path. -/
def jerr (l : List ByteArray) : Int := if l.all nameOk = false then 106 else if 8 < l.length then 5 else if 128 < (jt l).size then 5 else 0
def jval (l : List ByteArray) : ByteArray := if jerr l = 0 then jt l else ⟨#[]⟩

theorem join_jp (l : List (List UInt8)) : 47 :: Lib.join l [47] = jp l := by
  cases l with
  | nil => rfl
  | cons x r =>
    rw [Lib.join_cons, jp, if_neg (by simp), jl_cons]
    simp [Lib.joinTail, jl]
theorem jl_bound {l : List ByteArray} (h : l.all nameOk = true) : (jl (dl l)).length ≤ 17 * l.length := by
  induction l with
  | nil => simp [dl, jl]
  | cons x r ih =>
    simp only [List.all_cons, Bool.and_eq_true] at h
    have h1 := (name_size h.1).1
    have h2 := ih h.2
    show (jl (x.data.toList :: dl r)).length ≤ _
    rw [jl_cons]
    simp
    omega
theorem join_bound {l : List ByteArray} (h : l.all nameOk = true) (h8 : l.length ≤ 8) : (Lib.join (dl l) [47]).length ≤ 136 := by
  have h1 := congrArg List.length (join_jp (dl l))
  rw [jp_length] at h1
  have h2 := jl_bound h
  simp at h1
  omega

/-- What strings.Join makes of names, few and short. -/
theorem strs_any (n0 : Nat) (v : Value) (l : List ByteArray) (w : World) (h : ArgT n0 w v l) (ha : l.all nameOk = true) (h8 : l.length ≤ 8) :
    Calls Try.prog 25 #[v, .string ⟨#[47]⟩] w fun e w' => e = .returned (.string (bk (Lib.join (dl l) [47]))) ∧ Below w.heap.size w w' := by
  have hj := join_bound ha h8
  rcases h.split with ⟨rfl, rfl⟩ | ⟨rfl, a, cap, rfl⟩ | ⟨b, o, cap, rfl, h1, _, _, hne, hc⟩
  · exact (strings_Join_none none 0 ⟨#[47]⟩ w).mono fun e w' k => ⟨by rw [k.1]; rfl, by rw [k.2]; exact Below.refl _ _⟩
  · exact (strings_Join_none (some a) cap ⟨#[47]⟩ w).mono fun e w' k => ⟨by rw [k.1]; rfl, by rw [k.2]; exact Below.refl _ _⟩
  · obtain ⟨x, hx⟩ := get_lt (l := l) (k := 0) (List.length_pos_iff.2 hne)
    exact (strings_Join b o cap l ⟨#[47]⟩ w hc (cell_lt (hc 0 x hx)) (by omega) h1 (by show (Lib.join (dl l) [47]).length ≤ _; omega)).mono fun e w' k => ⟨k.1, k.2⟩

theorem slash_cat (x : List UInt8) : (⟨#[47]⟩ : ByteArray) ++ bk x = bk (47 :: x) := by
  rw [← bk_of ((⟨#[47]⟩ : ByteArray) ++ bk x), data_append, bk_data]; rfl

set_option maxRecDepth 100000 in
set_option maxHeartbeats 2000000 in
theorem join_any (n0 : Nat) (v : Value) (l : List ByteArray) (w : World) (h : ArgT n0 w v l) :
    Calls Try.prog 11 #[v] w fun e w' => e = .returned (.tuple #[.string (jval l), .int .i64 (jerr l)]) ∧ Below w.heap.size w w' := by
  obtain ⟨a, c, rfl, _, hm, _⟩ := h.shape
  unfold maxLen at hm
  obtain ⟨n, hn⟩ : ∃ n, n = l.length := ⟨_, rfl⟩
  rw [← hn] at h hm
  have hl1 := run_len Try.underlying22 a n c
  obtain ⟨E, hE⟩ : ∃ E, E = jerr l := ⟨_, rfl⟩
  obtain ⟨L, hL⟩ : ∃ L, L = jval l := ⟨_, rfl⟩
  rw [← hE, ← hL, ← hn]
  have HH : Hid (ArgT n0 w (.slice a n c) l ∧ n = l.length ∧ E = jerr l ∧ L = jval l) := ⟨h, hn, hE, hL⟩
  clear h hn hE hL
  go_enter Try.func11, Try.ntmps11
  go_wp2
  go_loopw [5, 6, 10] (fun _ _ i wr => ∃ k : Nat, k ≤ n ∧ i = .int .i64 k ∧ (l.take k).all nameOk = true ∧ Below w.heap.size w wr) (fun _ _ i _ => n - (intOf i).toNat)
  case atStart => exact ⟨0, Nat.zero_le _, rfl, rfl, Below.refl _ _⟩
  case round =>
    obtain ⟨k, hk, rfl, hall, hbel⟩ := hrel
    have HB : Hid ((l.take k).all nameOk = true ∧ Below w.heap.size w wr) := ⟨hall, hbel⟩
    clear hall hbel
    by_cases hlt : k < n
    · obtain ⟨x, hx⟩ := get_lt (l := l) (k := k) (by rw [← HH.out.2.1]; exact hlt)
      obtain ⟨b, o, hix, _, hc⟩ := (HH.out.1.below HB.out.2).at k x hx
      have hki : (k : Int) < (n : Int) := by omega
      have HT : Hid (l.take (k + 1) = l.take k ++ [x] ∧ x ∈ l) := ⟨take_snoc hx, List.mem_of_getElem? hx⟩
      clear hx
      cases hok : nameOk x
      · have HC : Hid (∀ W, Calls Try.prog 22 #[.string x] W fun e w' => e = .returned (.int .i64 106) ∧ Below W.heap.size W w') := fun W => by
          have := name_any x W
          rwa [nerr_bad hok] at this
        have HF : Hid (E = 106 ∧ L = ⟨#[]⟩) := by
          have hf : l.all nameOk = false := by
            rw [Bool.eq_false_iff]
            intro hc
            rw [List.all_eq_true.1 hc x HT.out.2] at hok
            cases hok
          have h1 : jerr l = 106 := by simp [jerr, hf]
          exact ⟨by rw [HH.out.2.2.1, h1], by rw [HH.out.2.2.2, jval, h1]; rfl⟩
        clear hok
        go_wp2_with (go_at_call 22; refine (HC.out _).mono ?_; rintro e w' ⟨rfl, hb⟩)
        go_ret2
        exact ⟨by rw [HF.out.1, HF.out.2]; rfl, below_any HB.out.2 hb⟩
      · have HC : Hid (∀ W, Calls Try.prog 22 #[.string x] W fun e w' => e = .returned (.int .i64 0) ∧ Below W.heap.size W w') := fun W => by
          have := name_any x W
          rwa [nerr_zero.2 hok] at this
        have HA : Hid ((l.take (k + 1)).all nameOk = true) := by show _ = _; rw [HT.out.1, List.all_append, HB.out.1]; simp [hok]
        clear hok
        go_wp2_with (go_at_call 22; refine (HC.out _).mono ?_; rintro e w' ⟨rfl, hb⟩)
        go_roundw
        case rel => exact ⟨k + 1, by omega, by go_num, HA.out, below_any HB.out.2 hb⟩
        case measure => simp [intOf]; omega
    · obtain rfl : k = n := by omega
      have HA : Hid (l.all nameOk = true) := by
        show _ = _
        have := HB.out.1
        rwa [List.take_of_length_le (by have := HH.out.2.1; omega)] at this
      by_cases h8 : 8 < k
      · have HF : Hid (E = 5 ∧ L = ⟨#[]⟩) := by
          have h1 : jerr l = 5 := by simp [jerr, HA.out, ← HH.out.2.1, h8]
          exact ⟨by rw [HH.out.2.2.1, h1], by rw [HH.out.2.2.2, jval, h1]; rfl⟩
        have h8i : (8 : Int) < (k : Int) := by omega
        go_wp2
        go_ret2
        exact ⟨by rw [HF.out.1, HF.out.2]; rfl, HB.out.2⟩
      · have h8i : ¬ (8 : Int) < (k : Int) := by omega
        have HS : Hid (Calls Try.prog 25 #[.slice a k c, .string ⟨#[47]⟩] wr fun e w' => e = .returned (.string (bk (Lib.join (dl l) [47]))) ∧ Below wr.heap.size wr w') :=
          strs_any n0 _ l wr (HH.out.1.below HB.out.2) HA.out (by have := HH.out.2.1; omega)
        obtain ⟨t, ht⟩ : ∃ t, t = Lib.join (dl l) [47] := ⟨_, rfl⟩
        have hbd : t.length ≤ 136 := by rw [ht]; exact join_bound HA.out (by have := HH.out.2.1; omega)
        rw [← ht] at HS
        have HJ : Hid (jt l = bk (47 :: t)) := by show _ = _; rw [jt, ← join_jp, ht]
        have hcat := slash_cat t
        have hsz : (bk (47 :: t)).size = t.length + 1 := by rw [bk_size]; rfl
        have hsz2 : (bk t).size = t.length := bk_size t
        clear ht
        by_cases h128 : 128 < t.length + 1
        · have HF : Hid (E = 5 ∧ L = ⟨#[]⟩) := by
            have h1 : jerr l = 5 := by simp [jerr, HA.out, ← HH.out.2.1, h8, HJ.out, hsz]; omega
            exact ⟨by rw [HH.out.2.2.1, h1], by rw [HH.out.2.2.2, jval, h1]; rfl⟩
          have h128i : (128 : Int) < ((t.length + 1 : Nat) : Int) := by omega
          go_wp2_with (go_at_call 25; refine HS.out.mono ?_; rintro e w' ⟨rfl, hb⟩)
          go_ret2
          exact ⟨by rw [HF.out.1, HF.out.2]; rfl, below_any HB.out.2 hb⟩
        · have HF : Hid (E = 0 ∧ L = bk (47 :: t)) := by
            have h1 : jerr l = 0 := by simp [jerr, HA.out, ← HH.out.2.1, h8, HJ.out, hsz]; omega
            exact ⟨by rw [HH.out.2.2.1, h1], by rw [HH.out.2.2.2, jval, h1, if_pos rfl, HJ.out]⟩
          have h128i : ¬ (128 : Int) < ((t.length + 1 : Nat) : Int) := by omega
          go_wp2_with (go_at_call 25; refine HS.out.mono ?_; rintro e w' ⟨rfl, hb⟩)
          go_ret2
          exact ⟨by rw [HF.out.1, HF.out.2]; rfl, below_any HB.out.2 hb⟩

end Go.Proofs.Ytedbnmiedknfjaa
