/-
  What the document's Check and there answer, and the program's checkPlace.
-/
import Derived.Test.YtpecniajamgjiaaCheck
namespace Go.Proofs.Ytpecniajamgjiaa
open Go.RowKit

set_option maxRecDepth 100000 in
set_option maxHeartbeats 4000000 in
theorem rcheck_any (n0 : Nat) (us : List Value) (s : St) (w : World) (h : stR.lies n0 w us s) :
    Calls Try.prog 24 #[.agg us.toArray] w fun e w' => e = .returned (.int .i64 (cerr s)) ∧ Below w.heap.size w w' := by
  obtain ⟨a, c, rfl, hL, hi, hm⟩ := st_viewR h
  obtain ⟨lim, l⟩ := s
  simp only at hL hi hm
  unfold maxLen at hm
  obtain ⟨W, hW⟩ : ∃ W, W = w.alloc (.cells #[.int .i64 lim, .slice a l.length c] 24) := ⟨_, rfl⟩
  have hb : Below w.heap.size w W := by rw [hW]; exact (Below.refl _ w).alloc (Nat.le_refl _) _
  have hP : Box W w.heap.size 24 #[.int .i64 lim, .slice a l.length c] := by rw [hW]; exact Box.new w 24 _
  have HL : Hid (pksR.lies n0 W [.slice a l.length c] l) := pksR.below hL hb
  have HW : Hid (Below w.heap.size w W) := hb
  obtain ⟨ce, hce⟩ : ∃ x, x = cerr (lim, l) := ⟨_, rfl⟩
  have HCE : Hid (ce = if (decide (1 ≤ lim) && decide (lim ≤ 4096) && decide ((l.length : Int) ≤ lim) && l.all okP) = true then 0 else 9) := hce
  rw [← hce]
  obtain ⟨n, hn⟩ : ∃ n, n = l.length := ⟨_, rfl⟩
  have HN : Hid (n = l.length) := hn
  rw [← hn] at HCE HL hW hP hm
  simp only
  rw [← hn]
  have hl1 := run_len Try.underlying22 a n c
  have HBX : Hid (Box W w.heap.size 24 #[.int .i64 lim, .slice a n c]) := hP
  clear h hL hb hce hP hn
  by_cases h1 : lim < 1
  · obtain rfl : ce = 9 := by rw [HCE.out, decide_eq_false (show ¬ 1 ≤ lim by omega)]; rfl
    rw [hW] at HW
    clear hW
    go_enter Try.func24, Try.ntmps24
    go_wp2
    go_ret
    exact ⟨rfl, HW.out⟩
  by_cases h2 : 4096 < lim
  · obtain rfl : ce = 9 := by rw [HCE.out, decide_eq_false (show ¬ lim ≤ 4096 by omega)]; simp
    rw [hW] at HW
    clear hW
    go_enter Try.func24, Try.ntmps24
    go_wp2
    go_ret
    exact ⟨rfl, HW.out⟩
  by_cases h3 : lim < (n : Int)
  · obtain rfl : ce = 9 := by rw [HCE.out, decide_eq_false (show ¬ (n : Int) ≤ lim by omega)]; simp
    rw [hW] at HW
    clear hW
    go_enter Try.func24, Try.ntmps24
    go_wp2
    go_ret
    exact ⟨rfl, HW.out⟩
  have HC2 : Hid (ce = if l.all okP = true then 0 else 9) := by
    show _ = _
    rw [HCE.out, decide_eq_true (show 1 ≤ lim by omega), decide_eq_true (show lim ≤ 4096 by omega), decide_eq_true (show (n : Int) ≤ lim by omega)]
    rfl
  clear HCE
  go_enter Try.func24, Try.ntmps24
  go_wp2
  rw [← hW]
  clear hW
  go_loopw [3] (fun i wr => ∃ k : Nat, k ≤ n ∧ i = .int .i64 k ∧ Hid ((l.take k).all okP = true) ∧ Below W.heap.size W wr) (fun i _ => n - (intOf i).toNat)
  case atStart => exact ⟨0, Nat.zero_le _, rfl, by show _ = _; simp, Below.refl _ _⟩
  case round =>
    obtain ⟨k, hk, rfl, HK, hbel⟩ := hrel
    have hbx := HBX.out.below hbel HBX.out.lt
    obtain ⟨q0, q1, _, _⟩ := hbx.two
    have hlt0 := hbx.lt
    have HB : Hid (Below W.heap.size W wr ∧ Below w.heap.size w wr) := ⟨hbel, below_any HW.out hbel⟩
    clear hbel hbx
    by_cases hlt : k < n
    · obtain ⟨p, hp⟩ := get_lt (l := l) (k := k) (by rw [← HN.out]; exact hlt)
      obtain ⟨b, o, x, cap, hix, g0, g1, g2, _⟩ := pks_atR (pksR.below HL.out HB.out.1) k p hp
      have HP : Hid (l[k]? = some p) := hp
      obtain ⟨f, t, d⟩ := p
      simp only at g0 g1 g2
      have HO : Hid (okP (f, t, d) = (node f && node t && decide (d.length ≤ 4096))) := rfl
      obtain ⟨m, hm'⟩ : ∃ m, m = d.length := ⟨_, rfl⟩
      rw [← hm'] at g2 HO
      have hl2 := run_len Try.underlying25 x m cap
      have hki : (k : Int) < (n : Int) := by omega
      have HB2 : Hid (Below W.heap.size W (wr.alloc (.cells #[.int .i64 f, .int .i64 t, .slice x m cap] 27)) ∧ Below w.heap.size w (wr.alloc (.cells #[.int .i64 f, .int .i64 t, .slice x m cap] 27))) := ⟨HB.out.1.alloc HB.out.1.size _, HB.out.2.alloc HB.out.2.size _⟩
      clear hp hm'
      cases hf : node f
      · have HA : Hid (l.all okP = false) := all_not HP.out (by rw [HO.out, hf]; rfl)
        obtain rfl : ce = 9 := by rw [HC2.out, HA.out]; rfl
        go_wp2_with (go_at_call 32; refine (node32 _ _).mono ?_; rintro e w1 ⟨rfl, rfl⟩; try rw [hf])
        go_ret
        exact ⟨rfl, HB2.out.2⟩
      cases ht : node t
      · have HA : Hid (l.all okP = false) := all_not HP.out (by rw [HO.out, hf, ht]; rfl)
        obtain rfl : ce = 9 := by rw [HC2.out, HA.out]; rfl
        go_wp2_with (go_at_call 32; refine (node32 _ _).mono ?_; rintro e w1 ⟨rfl, rfl⟩; first | rw [hf] | rw [ht])
        go_ret
        exact ⟨rfl, HB2.out.2⟩
      by_cases hd : (4096 : Int) < m
      · have HA : Hid (l.all okP = false) := all_not HP.out (by rw [HO.out, decide_eq_false (by omega)]; simp)
        obtain rfl : ce = 9 := by rw [HC2.out, HA.out]; rfl
        go_wp2_with (go_at_call 32; refine (node32 _ _).mono ?_; rintro e w1 ⟨rfl, rfl⟩; first | rw [hf] | rw [ht])
        go_ret
        exact ⟨rfl, HB2.out.2⟩
      · have HK2 : Hid ((l.take (k + 1)).all okP = true) := take_step HK.out HP.out (by rw [HO.out, hf, ht, decide_eq_true (by omega)]; rfl)
        go_wp2_with (go_at_call 32; refine (node32 _ _).mono ?_; rintro e w1 ⟨rfl, rfl⟩; first | rw [hf] | rw [ht])
        go_roundw
        case rel => exact ⟨k + 1, by omega, by go_num, HK2, HB2.out.1⟩
        case measure => simp [intOf]; omega
    · obtain rfl : k = n := by omega
      obtain rfl : ce = 0 := by rw [HC2.out, take_all (by rw [← HN.out]; exact HK.out)]; rfl
      clear HK
      go_wp2
      go_ret
      exact ⟨rfl, HB.out.2⟩

/-- Whether there is a k-th one. -/
def terr (s : St) (k : Int) : Int := if chk s = false then 9 else if (decide (0 ≤ k) && decide (k < (s.2.length : Int))) = false then 71 else 0
theorem terr_ok {s : St} {k : Int} (h : terr s k = 0) : chk s = true ∧ 0 ≤ k ∧ k < (s.2.length : Int) := by
  unfold terr at h
  cases hc : chk s
  · simp [hc] at h
  · by_cases hk : (decide (0 ≤ k) && decide (k < (s.2.length : Int))) = true
    · simpa using hk
    · rw [Bool.not_eq_true] at hk
      simp [hc, hk] at h

set_option maxHeartbeats 2000000 in
theorem there_any (n0 : Nat) (us : List Value) (s : St) (k : Int) (w : World) (h : stR.lies n0 w us s) :
    Calls Try.prog 37 #[.agg us.toArray, .int .i64 k] w fun e w' => e = .returned (.int .i64 (terr s k)) ∧ Below w.heap.size w w' := by
  obtain ⟨a, c, rfl, hL, hi, hm⟩ := st_viewR h
  obtain ⟨W, hW⟩ : ∃ W, W = w.alloc (.cells #[.int .i64 s.1, .slice a s.2.length c] 24) := ⟨_, rfl⟩
  have hb : Below w.heap.size w W := by rw [hW]; exact (Below.refl _ w).alloc (Nat.le_refl _) _
  have hP : Box W w.heap.size 24 #[.int .i64 s.1, .slice a s.2.length c] := by rw [hW]; exact Box.new w 24 _
  have HC := rcheck_any n0 _ s W (stR.below h hb)
  have HW : Hid (Below w.heap.size w W ∧ Box W w.heap.size 24 #[.int .i64 s.1, .slice a s.2.length c]) := ⟨hb, hP⟩
  obtain ⟨te, hte⟩ : ∃ x, x = terr s k := ⟨_, rfl⟩
  rw [← hte]
  obtain ⟨n, hn⟩ : ∃ n, n = s.2.length := ⟨_, rfl⟩
  have HT : Hid (te = if chk s = false then 9 else if (decide (0 ≤ k) && decide (k < (n : Int))) = false then 71 else 0) := by
    show _ = _
    rw [hte, hn]; rfl
  rw [← hn] at HC HW hW ⊢
  have hl1 := run_len Try.underlying22 a n c
  obtain ⟨x0, hx0⟩ : ∃ x, x = s.1 := ⟨_, rfl⟩
  rw [← hx0] at HC HW hW ⊢
  clear h hL hb hP hm hi hte hn hx0
  unfold cerr at HC
  go_enter Try.func37, Try.ntmps37
  go_wp2_with fail
  rw [← hW]
  clear hW
  cases hc : chk s
  · obtain rfl : te = 9 := by rw [HT.out, hc]; rfl
    rw [hc] at HC
    refine HC.mono ?_
    rintro e w1 ⟨rfl, hb1⟩
    go_wp2
    go_ret
    exact ⟨rfl, below_any HW.out.1 hb1⟩
  · rw [hc] at HC
    refine HC.mono ?_
    rintro e w1 ⟨rfl, hb1⟩
    obtain ⟨g0, g1, _, _⟩ := (HW.out.2.below hb1 HW.out.2.lt).two
    have HB : Hid (Below w.heap.size w w1) := below_any HW.out.1 hb1
    clear hb1 HC
    by_cases h0 : k < 0
    · obtain rfl : te = 71 := by rw [HT.out, hc, decide_eq_false (show ¬ 0 ≤ k by omega)]; rfl
      go_wp2
      go_ret
      exact ⟨rfl, HB.out⟩
    by_cases h1 : k < (n : Int)
    · obtain rfl : te = 0 := by rw [HT.out, hc, decide_eq_true (show 0 ≤ k by omega), decide_eq_true h1]; rfl
      go_wp2
      go_ret
      exact ⟨rfl, HB.out⟩
    · obtain rfl : te = 71 := by rw [HT.out, hc, decide_eq_false h1]; simp
      go_wp2
      go_ret
      exact ⟨rfl, HB.out⟩

set_option maxHeartbeats 2000000 in
theorem place_any (n0 : Nat) (us : List Value) (s : St) (k : Int) (w : World) (h : stN.lies n0 w us s) :
    Calls Try.prog 35 #[.agg us.toArray, .int .i64 k] w fun e w' => e = .returned (.int .i64 (terr s k)) ∧ Below w.heap.size w w' := by
  obtain ⟨a, c, rfl, hL, hi, hm⟩ := st_viewN h
  obtain ⟨W, hW⟩ : ∃ W, W = w.alloc (.cells #[.int .i64 s.1, .slice a s.2.length c] 30) := ⟨_, rfl⟩
  have hb : Below w.heap.size w W := by rw [hW]; exact (Below.refl _ w).alloc (Nat.le_refl _) _
  have hP : Box W w.heap.size 30 #[.int .i64 s.1, .slice a s.2.length c] := by rw [hW]; exact Box.new w 30 _
  have HC := check_any n0 _ s W (stN.below h hb)
  have HW : Hid (Below w.heap.size w W ∧ Box W w.heap.size 30 #[.int .i64 s.1, .slice a s.2.length c]) := ⟨hb, hP⟩
  obtain ⟨te, hte⟩ : ∃ x, x = terr s k := ⟨_, rfl⟩
  rw [← hte]
  obtain ⟨n, hn⟩ : ∃ n, n = s.2.length := ⟨_, rfl⟩
  have HT : Hid (te = if chk s = false then 9 else if (decide (0 ≤ k) && decide (k < (n : Int))) = false then 71 else 0) := by
    show _ = _
    rw [hte, hn]; rfl
  rw [← hn] at HC HW hW ⊢
  have hl1 := run_len Try.underlying28 a n c
  obtain ⟨x0, hx0⟩ : ∃ x, x = s.1 := ⟨_, rfl⟩
  rw [← hx0] at HC HW hW ⊢
  clear h hL hb hP hm hi hte hn hx0
  unfold cerr at HC
  go_enter Try.func35, Try.ntmps35
  go_wp2_with fail
  rw [← hW]
  clear hW
  cases hc : chk s
  · obtain rfl : te = 9 := by rw [HT.out, hc]; rfl
    rw [hc] at HC
    refine HC.mono ?_
    rintro e w1 ⟨rfl, hb1⟩
    go_wp2
    go_ret
    exact ⟨rfl, below_any HW.out.1 hb1⟩
  · rw [hc] at HC
    refine HC.mono ?_
    rintro e w1 ⟨rfl, hb1⟩
    obtain ⟨g0, g1, _, _⟩ := (HW.out.2.below hb1 HW.out.2.lt).two
    have HB : Hid (Below w.heap.size w w1) := below_any HW.out.1 hb1
    clear hb1 HC
    by_cases h0 : k < 0
    · obtain rfl : te = 71 := by rw [HT.out, hc, decide_eq_false (show ¬ 0 ≤ k by omega)]; rfl
      go_wp2
      go_ret
      exact ⟨rfl, HB.out⟩
    by_cases h1 : k < (n : Int)
    · obtain rfl : te = 0 := by rw [HT.out, hc, decide_eq_true (show 0 ≤ k by omega), decide_eq_true h1]; rfl
      go_wp2
      go_ret
      exact ⟨rfl, HB.out⟩
    · obtain rfl : te = 71 := by rw [HT.out, hc, decide_eq_false h1]; simp
      go_wp2
      go_ret
      exact ⟨rfl, HB.out⟩

end Go.Proofs.Ytpecniajamgjiaa
