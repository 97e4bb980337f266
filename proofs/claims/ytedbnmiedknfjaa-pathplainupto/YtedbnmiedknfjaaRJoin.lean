/-
  What the document's Join answers; for all lists of texts.
-/
import Derived.Test.YtedbnmiedknfjaaJoin
namespace Go.Proofs.Ytedbnmiedknfjaa
open Go.RowKit Go.Shelf

theorem cat_slash (x : List UInt8) : bk x ++ (⟨#[47]⟩ : ByteArray) = bk (x ++ [47]) := by
  rw [← bk_of (bk x ++ (⟨#[47]⟩ : ByteArray)), data_append, bk_data]
theorem cat_text (x : List UInt8) (s : ByteArray) : bk x ++ s = bk (x ++ s.data.toList) := by
  rw [← bk_of (bk x ++ s), data_append, bk_data]
theorem jl_take {l : List ByteArray} (h : l.all nameOk = true) (h8 : l.length ≤ 8) (k : Nat) : (jl (dl (l.take k))).length ≤ 136 := by
  have h1 := jl_length_take (dl l) k
  have h2 := jl_bound h
  rw [show dl (l.take k) = (dl l).take k by simp [dl]]
  omega

set_option maxRecDepth 100000 in
set_option maxHeartbeats 4000000 in
theorem rjoin_any (n0 : Nat) (v : Value) (l : List ByteArray) (w : World) (h : ArgT n0 w v l) :
    Calls Try.prog 12 #[v] w fun e w' => e = .returned (.tuple #[.string (jval l), .int .i64 (jerr l)]) ∧ w = w' := by
  obtain ⟨a, c, rfl, _, hm, _⟩ := h.shape
  unfold maxLen at hm
  obtain ⟨n, hn⟩ : ∃ n, n = l.length := ⟨_, rfl⟩
  rw [← hn] at h hm
  have hl1 := run_len Try.underlying22 a n c
  obtain ⟨E, hE⟩ : ∃ E, E = jerr l := ⟨_, rfl⟩
  obtain ⟨L, hL⟩ : ∃ L, L = jval l := ⟨_, rfl⟩
  rw [← hE, ← hL, ← hn]
  have HH : Hid (ArgT n0 w (.slice a n c) l ∧ n = l.length ∧ E = jerr l ∧ L = jval l) := ⟨h, hn, hE, hL⟩
  clear h hn hE hL
  go_enter Try.func12, Try.ntmps12
  go_wp2
  go_loopw [4] (fun i wr => ∃ k : Nat, k ≤ n ∧ i = .int .i64 k ∧ (l.take k).all nameOk = true ∧ wr = w) (fun i _ => n - (intOf i).toNat)
  case atStart => exact ⟨0, Nat.zero_le _, rfl, rfl, rfl⟩
  case round =>
    obtain ⟨k, hk, rfl, hall, hwr⟩ := hrel
    obtain rfl : w = wr := hwr.symm
    have HB : Hid ((l.take k).all nameOk = true) := hall
    clear hall
    by_cases hlt : k < n
    · obtain ⟨x, hx⟩ := get_lt (l := l) (k := k) (by rw [← HH.out.2.1]; exact hlt)
      obtain ⟨b, o, hix, _, hc⟩ := HH.out.1.at k x hx
      have hki : (k : Int) < (n : Int) := by omega
      have HT : Hid (l.take (k + 1) = l.take k ++ [x] ∧ x ∈ l) := ⟨take_snoc hx, List.mem_of_getElem? hx⟩
      clear hx
      cases hok : nameOk x
      · have HC : Hid (∀ W, Calls Try.prog 24 #[.string x] W fun e w' => e = .returned (.int .i64 106) ∧ W = w') := fun W => by
          have := rname_any x W
          rwa [nerr_bad hok] at this
        have HF : Hid (E = 106 ∧ L = ⟨#[]⟩) := by
          have hf : l.all nameOk = false := by
            rw [Bool.eq_false_iff]
            intro hc
            rw [List.all_eq_true.1 hc x HT.out.2] at hok
            cases hok
          have h1 : jerr l = 106 := by simp [jerr, hf]
          exact ⟨by rw [HH.out.2.2.1, h1], by rw [HH.out.2.2.2, jval, h1]; rfl⟩
        clear hok
        go_wp2_with (go_at_call 24; refine (HC.out _).mono ?_; rintro e w' ⟨rfl, rfl⟩)
        go_ret2
        exact ⟨by rw [HF.out.1, HF.out.2]; rfl, rfl⟩
      · have HC : Hid (∀ W, Calls Try.prog 24 #[.string x] W fun e w' => e = .returned (.int .i64 0) ∧ W = w') := fun W => by
          have := rname_any x W
          rwa [nerr_zero.2 hok] at this
        have HA : Hid ((l.take (k + 1)).all nameOk = true) := by show _ = _; rw [HT.out.1, List.all_append, HB.out]; simp [hok]
        clear hok
        go_wp2_with (go_at_call 24; refine (HC.out _).mono ?_; rintro e w' ⟨rfl, rfl⟩)
        go_roundw
        case rel => exact ⟨k + 1, by omega, by go_num, HA.out, by first | rfl | trivial⟩
        case measure => simp [intOf]; omega
    · obtain rfl : k = n := by omega
      have HA : Hid (l.all nameOk = true) := by
        show _ = _
        have := HB.out
        rwa [List.take_of_length_le (by have := HH.out.2.1; omega)] at this
      by_cases h8 : 8 < k
      · have HF : Hid (E = 5 ∧ L = ⟨#[]⟩) := by
          have h1 : jerr l = 5 := by simp [jerr, HA.out, ← HH.out.2.1, h8]
          exact ⟨by rw [HH.out.2.2.1, h1], by rw [HH.out.2.2.2, jval, h1]; rfl⟩
        have h8i : (8 : Int) < (k : Int) := by omega
        go_wp2
        go_ret2
        exact ⟨by rw [HF.out.1, HF.out.2]; rfl, rfl⟩
      · have h8i : ¬ (8 : Int) < (k : Int) := by omega
        go_wp2
        go_loopw [5, 6] (fun s i W => ∃ j : Nat, j ≤ k ∧ i = .int .i64 j ∧ s = .string (bk (jl (dl (l.take j)))) ∧ W = w) (fun _ i _ => k - (intOf i).toNat)
        case atStart => exact ⟨0, Nat.zero_le _, rfl, rfl, rfl⟩
        case round =>
          obtain ⟨j, hj, rfl, rfl, hwr⟩ := hrel
          obtain rfl : w = wr := hwr.symm
          have HJ8 : Hid (l.length ≤ 8) := by show _ ≤ _; have := HH.out.2.1; omega
          by_cases hlt : j < k
          · obtain ⟨x, hx⟩ := get_lt (l := l) (k := j) (by rw [← HH.out.2.1]; exact hlt)
            obtain ⟨b, o, hix, _, hc⟩ := HH.out.1.at j x hx
            have hji : (j : Int) < (k : Int) := by omega
            obtain ⟨t, ht⟩ : ∃ t, t = jl (dl (l.take j)) := ⟨_, rfl⟩
            have HN : Hid (jl (dl (l.take (j + 1))) = t ++ [47] ++ x.data.toList) := by
              show _ = _
              rw [take_snoc hx, dl_snoc, jl_snoc, ← ht]; simp
            have hb1 := jl_take HA.out HJ8.out j
            rw [← ht] at hb1 ⊢
            have hxs := (name_size (List.all_eq_true.1 HA.out x (List.mem_of_getElem? hx))).1
            have e1 := cat_slash t
            have e2 := cat_text (t ++ [47]) x
            have z1 : (bk t).size = t.length := bk_size t
            have z2 : (bk (t ++ [47])).size = t.length + 1 := by rw [bk_size]; simp
            clear ht hx
            go_wp2
            go_roundw
            case rel => exact ⟨j + 1, by omega, by go_num, by rw [HN.out]; simp, by first | rfl | trivial⟩
            case measure => simp [intOf]; omega
          · obtain rfl : j = k := by omega
            have hta : l.take j = l := List.take_of_length_le (by have := HH.out.2.1; omega)
            rw [hta]
            obtain ⟨t, ht⟩ : ∃ t, t = jl (dl l) := ⟨_, rfl⟩
            have hb1 := jl_take HA.out HJ8.out j
            rw [hta, ← ht] at hb1
            rw [← ht]
            have HJ : Hid (jt l = if t = [] then ⟨#[47]⟩ else bk t) := by
              show _ = _
              rw [jt, jp]
              cases l with
              | nil => rw [ht]; rfl
              | cons y r =>
                rw [if_neg (by simp [dl]), if_neg (by rw [ht]; show jl (y.data.toList :: dl r) ≠ []; rw [jl_cons]; simp), ht]
            have z1 : (bk t).size = t.length := bk_size t
            clear ht hta
            by_cases hte : t = []
            · have hemp : (bk t).toList.isEmpty = true := by rw [empty_iff, bk_size, hte]; rfl
              have HF : Hid (E = 0 ∧ L = ⟨#[47]⟩) := by
                have hj2 := HJ.out
                rw [if_pos hte] at hj2
                have h1 : jerr l = 0 := by simp [jerr, HA.out, ← HH.out.2.1, h8, hj2]; decide
                exact ⟨by rw [HH.out.2.2.1, h1], by rw [HH.out.2.2.2, jval, h1, if_pos rfl, hj2]⟩
              clear hte
              go_wp2
              go_ret2
              exact ⟨by rw [HF.out.1, HF.out.2]; rfl, rfl⟩
            · have hemp : (bk t).toList.isEmpty = false := by rw [empty_iff, bk_size]; simp; exact hte
              have hj2 := HJ.out
              rw [if_neg hte] at hj2
              by_cases h128 : 128 < t.length
              · have HF : Hid (E = 5 ∧ L = ⟨#[]⟩) := by
                  have h1 : jerr l = 5 := by simp [jerr, HA.out, ← HH.out.2.1, h8, hj2, z1, h128]
                  exact ⟨by rw [HH.out.2.2.1, h1], by rw [HH.out.2.2.2, jval, h1]; rfl⟩
                have h128i : (128 : Int) < (t.length : Int) := by omega
                clear hte hj2
                go_wp2
                go_ret2
                exact ⟨by rw [HF.out.1, HF.out.2]; rfl, rfl⟩
              · have HF : Hid (E = 0 ∧ L = bk t) := by
                  have h1 : jerr l = 0 := by simp [jerr, HA.out, ← HH.out.2.1, h8, hj2, z1, h128]
                  exact ⟨by rw [HH.out.2.2.1, h1], by rw [HH.out.2.2.2, jval, h1, if_pos rfl, hj2]⟩
                have h128i : ¬ (128 : Int) < (t.length : Int) := by omega
                clear hte hj2
                go_wp2
                go_ret2
                exact ⟨by rw [HF.out.1, HF.out.2]; rfl, rfl⟩

end Go.Proofs.Ytedbnmiedknfjaa
