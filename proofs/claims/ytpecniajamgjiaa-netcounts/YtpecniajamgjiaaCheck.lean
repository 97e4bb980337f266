/-
  What Check answers, the program's (by a closure) and the document's.
-/
import Derived.Test.YtpecniajamgjiaaCopy
namespace Go.Proofs.Ytpecniajamgjiaa
open Go.RowKit

/-- The closure of Check, as a value. -/
def wrongV : Value := .func (.func 40) #[] #[]

set_option maxRecDepth 100000 in
set_option maxHeartbeats 2000000 in
theorem index_any (n0 : Nat) (v : Value) (l : List Pk) (w : World) (h : pksN.lies n0 w [v] l) :
    Calls Try.prog 45 #[v, wrongV] w fun e w' => (∃ r : Int, e = .returned (.int .i64 r) ∧ ((r = -1 ∧ l.all okP = true) ∨ (0 ≤ r ∧ l.all okP = false))) ∧ Below w.heap.size w w' := by
  obtain ⟨a, c, hv, _, hm, _⟩ := Shape.list_len (S := pkN) (ht := Try.underlying28) (hc := cells28) h
  obtain rfl : v = _ := by simpa using hv
  have HL : Hid (pksN.lies n0 w [.slice a l.length c] l) := h
  obtain ⟨n, hn⟩ : ∃ n, n = l.length := ⟨_, rfl⟩
  have HN : Hid (n = l.length) := hn
  rw [← hn] at HL hm ⊢
  unfold maxLen at hm
  have hl1 := run_len Try.underlying28 a n c
  clear h hv hn
  unfold wrongV
  go_enter Try.func45, Try.ntmps45
  go_wp2
  go_loopw [8] (fun i wr => ∃ k : Nat, k ≤ n ∧ i = .int .i64 k ∧ Hid ((l.take k).all okP = true) ∧ Below w.heap.size w wr) (fun i _ => n - (intOf i).toNat)
  case atStart => exact ⟨0, Nat.zero_le _, rfl, by show _ = _; simp, Below.refl _ _⟩
  case round =>
    obtain ⟨k, hk, rfl, HK, hbel⟩ := hrel
    by_cases hlt : k < n
    · obtain ⟨p, hp⟩ := get_lt (l := l) (k := k) (by rw [← HN.out]; exact hlt)
      obtain ⟨b, o, x, cap, hix, g0, g1, g2, _⟩ := pks_atN (pksN.below HL.out hbel) k p hp
      have HP : Hid (l[k]? = some p) := hp
      have HB : Hid (Below w.heap.size w wr) := hbel
      clear hp hbel
      have hki : (k : Int) < (n : Int) := by omega
      have HC := wrong_any x cap p wr
      cases hok : okP p
      · rw [hok] at HC
        have HA : Hid (l.all okP = false) := all_not HP.out hok
        go_wp2_with fail
        refine HC.mono ?_
        rintro e w2 ⟨rfl, hb2⟩
        go_wp2
        go_ret
        exact ⟨⟨k, rfl, .inr ⟨by omega, HA.out⟩⟩, below_any HB.out hb2⟩
      · rw [hok] at HC
        have HK2 : Hid ((l.take (k + 1)).all okP = true) := take_step HK.out HP.out hok
        go_wp2_with fail
        refine HC.mono ?_
        rintro e w2 ⟨rfl, hb2⟩
        have HB2 : Hid (Below w.heap.size w w2) := below_any HB.out hb2
        clear hb2
        go_wp2
        go_roundw
        case rel => exact ⟨k + 1, by omega, by go_num, HK2, HB2.out⟩
        case measure => simp [intOf]; omega
    · obtain rfl : k = n := by omega
      have HA : Hid (l.all okP = true) := take_all (by rw [← HN.out]; exact HK.out)
      clear HK
      go_wp2
      go_ret
      exact ⟨⟨-1, rfl, .inl ⟨rfl, HA.out⟩⟩, hbel⟩

set_option maxHeartbeats 1000000 in
theorem contains_any (n0 : Nat) (v : Value) (l : List Pk) (w : World) (h : pksN.lies n0 w [v] l) :
    Calls Try.prog 41 #[v, wrongV] w fun e w' => e = .returned (.bool (!l.all okP)) ∧ Below w.heap.size w w' := by
  have HC := index_any n0 v l w h
  clear h
  unfold wrongV at HC ⊢
  obtain ⟨al, hal⟩ : ∃ x, x = l.all okP := ⟨_, rfl⟩
  rw [← hal] at HC ⊢
  clear hal
  go_enter Try.func41, Try.ntmps41
  go_wp2_with fail
  refine HC.mono ?_
  rintro e w2 ⟨⟨r, rfl, hr⟩, hb2⟩
  rcases hr with ⟨rfl, rfl⟩ | ⟨h0, rfl⟩
  · go_wp2
    go_ret
    exact ⟨rfl, hb2⟩
  · go_wp2
    go_ret
    exact ⟨by simp, hb2⟩

set_option maxHeartbeats 2000000 in
theorem check_any (n0 : Nat) (us : List Value) (s : St) (w : World) (h : stN.lies n0 w us s) :
    Calls Try.prog 23 #[.agg us.toArray] w fun e w' => e = .returned (.int .i64 (cerr s)) ∧ Below w.heap.size w w' := by
  obtain ⟨a, c, rfl, hL, hi, hm⟩ := st_viewN h
  obtain ⟨lim, l⟩ := s
  simp only at hL hi hm
  unfold maxLen at hm
  obtain ⟨W, hW⟩ : ∃ W, W = w.alloc (.cells #[.int .i64 lim, .slice a l.length c] 30) := ⟨_, rfl⟩
  have hb : Below w.heap.size w W := by rw [hW]; exact (Below.refl _ w).alloc (Nat.le_refl _) _
  have hP : Box W w.heap.size 30 #[.int .i64 lim, .slice a l.length c] := by rw [hW]; exact Box.new w 30 _
  have HC := contains_any n0 (.slice a l.length c) l W (pksN.below hL hb)
  unfold wrongV at HC
  have HW : Hid (Below w.heap.size w W) := hb
  obtain ⟨ce, hce⟩ : ∃ x, x = cerr (lim, l) := ⟨_, rfl⟩
  have HCE : Hid (ce = if (may lim && decide ((l.length : Int) ≤ lim) && l.all okP) = true then 0 else 9) := hce
  rw [← hce]
  obtain ⟨al, hal⟩ : ∃ x, x = l.all okP := ⟨_, rfl⟩
  rw [← hal] at HCE HC
  obtain ⟨n, hn⟩ : ∃ n, n = l.length := ⟨_, rfl⟩
  rw [← hn] at HCE HC hW hP hm
  simp only
  rw [← hn]
  have hl1 := run_len Try.underlying28 a n c
  obtain ⟨g0, g1, _, _⟩ := hP.two
  clear h hL hb hce hP hal hn
  cases h1 : may lim
  · obtain rfl : ce = 9 := by rw [HCE.out, h1]; rfl
    rw [hW] at HW
    clear HC g0 g1 hW
    go_enter Try.func23, Try.ntmps23
    go_wp2_with (go_at_call 39; refine (may_any _ _).mono ?_; rintro e w1 ⟨rfl, rfl⟩; try rw [h1])
    go_ret
    exact ⟨rfl, HW.out⟩
  by_cases h2 : (n : Int) ≤ lim
  case neg =>
    obtain rfl : ce = 9 := by rw [HCE.out, h1]; simp [h2]
    rw [hW] at HW
    clear HC g0 g1 hW
    go_enter Try.func23, Try.ntmps23
    go_wp2_with (go_at_call 39; refine (may_any _ _).mono ?_; rintro e w1 ⟨rfl, rfl⟩; try rw [h1])
    go_ret
    exact ⟨rfl, HW.out⟩
  rw [hW] at g0 g1
  cases h3 : al
  · obtain rfl : ce = 9 := by rw [HCE.out, h1, h3]; simp
    rw [h3] at HC
    go_enter Try.func23, Try.ntmps23
    go_wp2_with (go_at_call 39; refine (may_any _ _).mono ?_; rintro e w1 ⟨rfl, rfl⟩; try rw [h1])
    rw [← hW]
    clear hW
    refine HC.mono ?_
    rintro e w2 ⟨rfl, hb2⟩
    go_wp2
    go_ret
    exact ⟨rfl, below_any HW.out hb2⟩
  · obtain rfl : ce = 0 := by rw [HCE.out, h1, h3]; simp [h2]
    rw [h3] at HC
    go_enter Try.func23, Try.ntmps23
    go_wp2_with (go_at_call 39; refine (may_any _ _).mono ?_; rintro e w1 ⟨rfl, rfl⟩; try rw [h1])
    rw [← hW]
    clear hW
    refine HC.mono ?_
    rintro e w2 ⟨rfl, hb2⟩
    go_wp2
    go_ret
    exact ⟨rfl, below_any HW.out hb2⟩

end Go.Proofs.Ytpecniajamgjiaa
