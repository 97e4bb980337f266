/-
  What Check answers, the program's (by a closure) and the document's.
-/
import Derived.Test.YtkpckadicjdieabSeg
namespace Go.Proofs.Ytkpckadicjdieab
open Go.RowKit

/-- May a block stand in a segment? -/
def mayB (p : Bk) : Bool := decide (1 ≤ p.1) && decide (p.1 ≤ 2147483647) && decide (0 ≤ p.2.1) && decide (p.2.1 ≤ 255) && decide (p.2.2.length ≤ 32)
theorem may_iff {p : Bk} : mayB p = true ↔ (1 ≤ p.1 ∧ p.1 ≤ 2147483647) ∧ (0 ≤ p.2.1 ∧ p.2.1 ≤ 255) ∧ p.2.2.length ≤ 32 := by
  simp only [mayB, Bool.and_eq_true, decide_eq_true_eq]
  constructor
  · rintro ⟨⟨⟨⟨a, b⟩, c⟩, d⟩, e⟩; exact ⟨⟨a, b⟩, ⟨c, d⟩, e⟩
  · rintro ⟨⟨a, b⟩, ⟨c, d⟩, e⟩; exact ⟨⟨⟨⟨a, b⟩, c⟩, d⟩, e⟩
/-- May a segment be? -/
def Chk (s : Sg) : Prop := (1 ≤ s.1 ∧ s.1 ≤ 1099511627776) ∧ (1 ≤ s.2.length ∧ s.2.length ≤ 8) ∧ s.2.all mayB = true
abbrev chkB (s : Sg) : Bool := decide ((1 ≤ s.1 ∧ s.1 ≤ 1099511627776) ∧ (1 ≤ s.2.length ∧ s.2.length ≤ 8) ∧ s.2.all mayB = true)
def cerr (s : Sg) : Int := if chkB s = true then 0 else 9
theorem cerr_ok {s : Sg} (h : Chk s) : cerr s = 0 := if_pos (by simp only [chkB, decide_eq_true_eq]; exact h)
theorem cerr_bad {s : Sg} (h : ¬ Chk s) : cerr s = 9 := if_neg (by simp only [chkB, decide_eq_true_eq]; exact h)
theorem cerr_zero {s : Sg} : cerr s = 0 ↔ Chk s := by
  constructor
  · intro h
    by_cases hc : Chk s
    · exact hc
    · rw [cerr_bad hc] at h; exact absurd h (by decide)
  · exact cerr_ok
theorem take_step {l : List Bk} {k : Nat} {p : Bk} (h : (l.take k).all mayB = true) (hp : l[k]? = some p) (h1 : mayB p = true) : (l.take (k + 1)).all mayB = true := by
  rw [take_snoc hp, List.all_append, h]
  simp [h1]
theorem take_all {l : List Bk} (h : (l.take l.length).all mayB = true) : l.all mayB = true := by rwa [List.take_length] at h
theorem all_not {l : List Bk} {k : Nat} {p : Bk} (hp : l[k]? = some p) (h : mayB p = false) : l.all mayB = false := by
  rw [List.all_eq_false]
  exact ⟨p, List.mem_of_getElem? hp, by rw [h]; decide⟩

set_option maxRecDepth 100000 in
set_option maxHeartbeats 2000000 in
theorem mayNot_any (x : Option Addr) (cap : Nat) (p : Bk) (hm : p.2.2.length ≤ maxLen) (w : World) :
    Calls Try.prog 72 #[.agg #[.int .i64 p.1, .int .i64 p.2.1, .slice x p.2.2.length cap]] w fun e w' => e = .returned (.bool (!mayB p)) ∧ Below w.heap.size w w' := by
  obtain ⟨o, i, d⟩ := p
  simp only at hm ⊢
  have HB : Hid (Below w.heap.size w (w.alloc (.cells #[.int .i64 o, .int .i64 i, .slice x d.length cap] 48))) := (Below.refl _ w).alloc (Nat.le_refl _) _
  have hl := run_len Try.underlying46 x d.length cap
  unfold maxLen at hm
  obtain ⟨r, hr⟩ : ∃ r, r = !mayB (o, i, d) := ⟨_, rfl⟩
  have HR : Hid (r = !mayB (o, i, d)) := hr
  rw [← hr]
  clear hr
  have hno : ∀ q : Prop, [Decidable q] → (mayB (o, i, d) = true → q) → ¬ q → r = true := fun q _ h1 h2 => by
    rw [HR.out]
    cases h : mayB (o, i, d)
    · rfl
    · exact absurd (h1 h) h2
  have HNO : Hid (¬ mayB (o, i, d) = true → r = true) := fun h => by rw [HR.out]; simpa using h
  clear hno
  by_cases h1 : o < 1
  · obtain rfl : r = true := HNO.out fun h => by have := (may_iff.1 h).1.1; simp only at this; omega
    go_enter Try.func72, Try.ntmps72
    go_wp2
    go_ret
    exact ⟨rfl, HB.out⟩
  by_cases h2 : 2147483647 < o
  · obtain rfl : r = true := HNO.out fun h => by have := (may_iff.1 h).1.2; simp only at this; omega
    go_enter Try.func72, Try.ntmps72
    go_wp2
    go_ret
    exact ⟨rfl, HB.out⟩
  by_cases h3 : i < 0
  · obtain rfl : r = true := HNO.out fun h => by have := (may_iff.1 h).2.1.1; simp only at this; omega
    go_enter Try.func72, Try.ntmps72
    go_wp2
    go_ret
    exact ⟨rfl, HB.out⟩
  by_cases h4 : 255 < i
  · obtain rfl : r = true := HNO.out fun h => by have := (may_iff.1 h).2.1.2; simp only at this; omega
    go_enter Try.func72, Try.ntmps72
    go_wp2
    go_ret
    exact ⟨rfl, HB.out⟩
  obtain ⟨n, hn⟩ : ∃ n, n = d.length := ⟨_, rfl⟩
  have HN : Hid (n = d.length) := hn
  rw [← hn] at HB hl hm ⊢
  clear hn
  by_cases h5 : 32 < n
  · obtain rfl : r = true := HNO.out fun h => by have h9 := (may_iff.1 h).2.2; have := HN.out; simp only at h9; omega
    have h5i : (32 : Int) < (n : Int) := by omega
    go_enter Try.func72, Try.ntmps72
    go_wp2
    go_ret
    exact ⟨rfl, HB.out⟩
  obtain rfl : r = false := by
    rw [HR.out, may_iff.2 ⟨⟨by simp only; omega, by simp only; omega⟩, ⟨by simp only; omega, by simp only; omega⟩, by have := HN.out; simp only; omega⟩]; rfl
  have h5i : ¬ (32 : Int) < (n : Int) := by omega
  go_enter Try.func72, Try.ntmps72
  go_wp2
  go_ret
  exact ⟨rfl, HB.out⟩

/-- The closure of Check, as a value. -/
def wrongV : Value := .func (.func 72) #[] #[]

set_option maxRecDepth 100000 in
set_option maxHeartbeats 2000000 in
theorem index_any (n0 : Nat) (v : Value) (l : List Bk) (w : World) (h : bksN.lies n0 w [v] l) :
    Calls Try.prog 95 #[v, wrongV] w fun e w' => (∃ r : Int, e = .returned (.int .i64 r) ∧ ((r = -1 ∧ l.all mayB = true) ∨ (0 ≤ r ∧ l.all mayB = false))) ∧ Below w.heap.size w w' := by
  obtain ⟨a, c, hv, _, hm, _⟩ := Shape.list_len (S := bkN) (ht := Try.underlying29) (hc := cells29) h
  obtain rfl : v = _ := by simpa using hv
  have HL : Hid (bksN.lies n0 w [.slice a l.length c] l) := h
  obtain ⟨n, hn⟩ : ∃ n, n = l.length := ⟨_, rfl⟩
  have HN : Hid (n = l.length) := hn
  rw [← hn] at HL hm ⊢
  unfold maxLen at hm
  have hl1 := run_len Try.underlying29 a n c
  clear h hv hn
  unfold wrongV
  go_enter Try.func95, Try.ntmps95
  go_wp2
  go_loopw [8] (fun i wr => ∃ k : Nat, k ≤ n ∧ i = .int .i64 k ∧ Hid ((l.take k).all mayB = true) ∧ Below w.heap.size w wr) (fun i _ => n - (intOf i).toNat)
  case atStart => exact ⟨0, Nat.zero_le _, rfl, by show _ = _; simp, Below.refl _ _⟩
  case round =>
    obtain ⟨k, hk, rfl, HK, hbel⟩ := hrel
    by_cases hlt : k < n
    · obtain ⟨p, hp⟩ := get_lt (l := l) (k := k) (by rw [← HN.out]; exact hlt)
      obtain ⟨b, o, x, cap, hix, g0, g1, g2, hA, _⟩ := bks_atN (bksN.below HL.out hbel) k p hp
      have HP : Hid (l[k]? = some p) := hp
      have HB : Hid (Below w.heap.size w wr) := hbel
      have hki : (k : Int) < (n : Int) := by omega
      have HC := mayNot_any x cap p (by obtain ⟨_, _, _, _, h1, _⟩ := hA.shape; exact h1) wr
      clear hp hbel hA
      cases hok : mayB p
      · rw [hok] at HC
        have HA : Hid (l.all mayB = false) := all_not HP.out hok
        go_wp2_with fail
        refine HC.mono ?_
        rintro e w2 ⟨rfl, hb2⟩
        go_wp2
        go_ret
        exact ⟨⟨k, rfl, .inr ⟨by omega, HA.out⟩⟩, below_any HB.out hb2⟩
      · rw [hok] at HC
        have HK2 : Hid ((l.take (k + 1)).all mayB = true) := take_step HK.out HP.out hok
        go_wp2_with fail
        refine HC.mono ?_
        rintro e w2 ⟨rfl, hb2⟩
        have HB2 : Hid (Below w.heap.size w w2) := below_any HB.out hb2
        clear hb2
        go_wp2
        go_roundw
        case rel => exact ⟨k + 1, by omega, by go_num, HK2, HB2.out⟩
        case measure => simp [intOf]; omega
    · obtain rfl : k = n := by omega
      have HA : Hid (l.all mayB = true) := take_all (by rw [← HN.out]; exact HK.out)
      clear HK
      go_wp2
      go_ret
      exact ⟨⟨-1, rfl, .inl ⟨rfl, HA.out⟩⟩, hbel⟩

set_option maxHeartbeats 1000000 in
theorem contains_any (n0 : Nat) (v : Value) (l : List Bk) (w : World) (h : bksN.lies n0 w [v] l) :
    Calls Try.prog 73 #[v, wrongV] w fun e w' => e = .returned (.bool (!l.all mayB)) ∧ Below w.heap.size w w' := by
  have HC := index_any n0 v l w h
  clear h
  unfold wrongV at HC ⊢
  obtain ⟨al, hal⟩ : ∃ x, x = l.all mayB := ⟨_, rfl⟩
  rw [← hal] at HC ⊢
  clear hal
  go_enter Try.func73, Try.ntmps73
  go_wp2_with fail
  refine HC.mono ?_
  rintro e w2 ⟨⟨r, rfl, hr⟩, hb2⟩
  rcases hr with ⟨rfl, rfl⟩ | ⟨h0, rfl⟩
  · go_wp2
    go_ret
    exact ⟨rfl, hb2⟩
  · go_wp2
    go_ret
    exact ⟨by simp, hb2⟩

set_option maxRecDepth 100000 in
set_option maxHeartbeats 2000000 in
theorem check_any (n0 : Nat) (us : List Value) (s : Sg) (w : World) (h : sgN.lies n0 w us s) :
    Calls Try.prog 42 #[.agg us.toArray] w fun e w' => e = .returned (.int .i64 (cerr s)) ∧ Below w.heap.size w w' := by
  obtain ⟨a, c, rfl, hL, hi, hm⟩ := sg_viewN h
  obtain ⟨q, l⟩ := s
  simp only at hL hi hm
  unfold maxLen at hm
  obtain ⟨W, hW⟩ : ∃ W, W = w.alloc (.cells #[.int .i64 q, .slice a l.length c] 45) := ⟨_, rfl⟩
  have hb : Below w.heap.size w W := by rw [hW]; exact (Below.refl _ w).alloc (Nat.le_refl _) _
  have hP : Box W w.heap.size 45 #[.int .i64 q, .slice a l.length c] := by rw [hW]; exact Box.new w _ _
  have HC := contains_any n0 (.slice a l.length c) l W (bksN.below hL hb)
  unfold wrongV at HC
  have HW : Hid (Below w.heap.size w W) := hb
  obtain ⟨ce, hce⟩ : ∃ x, x = cerr (q, l) := ⟨_, rfl⟩
  have HCB : Hid (¬ Chk (q, l) → ce = 9) := fun h => by rw [hce]; exact cerr_bad h
  have HCO : Hid (Chk (q, l) → ce = 0) := fun h => by rw [hce]; exact cerr_ok h
  rw [← hce]
  obtain ⟨al, hal⟩ : ∃ x, x = l.all mayB := ⟨_, rfl⟩
  have HAL : Hid (al = l.all mayB) := hal
  rw [← hal] at HC
  obtain ⟨n, hn⟩ : ∃ n, n = l.length := ⟨_, rfl⟩
  have HN : Hid (n = l.length) := hn
  rw [← hn] at HC hW hP hm
  simp only
  rw [← hn]
  have hl1 := run_len Try.underlying29 a n c
  obtain ⟨g0, g1, _, _⟩ := hP.two
  clear h hL hb hce hP hal hn
  by_cases h1 : q < 1
  · obtain rfl : ce = 9 := HCB.out fun h => by have := h.1.1; simp only at this; omega
    rw [hW] at HW
    clear HC g0 g1 hW
    go_enter Try.func42, Try.ntmps42
    go_wp2
    go_ret
    exact ⟨rfl, HW.out⟩
  by_cases h2 : 1099511627776 < q
  · obtain rfl : ce = 9 := HCB.out fun h => by have := h.1.2; simp only at this; omega
    rw [hW] at HW
    clear HC g0 g1 hW
    go_enter Try.func42, Try.ntmps42
    go_wp2
    go_ret
    exact ⟨rfl, HW.out⟩
  by_cases h3 : n < 1
  · obtain rfl : ce = 9 := HCB.out fun h => by have h9 := h.2.1.1; have := HN.out; simp only at h9; omega
    have h3i : (n : Int) < 1 := by omega
    rw [hW] at HW
    clear HC g0 g1 hW
    go_enter Try.func42, Try.ntmps42
    go_wp2
    go_ret
    exact ⟨rfl, HW.out⟩
  have h3i : ¬ (n : Int) < 1 := by omega
  by_cases h4 : 8 < n
  · obtain rfl : ce = 9 := HCB.out fun h => by have h9 := h.2.1.2; have := HN.out; simp only at h9; omega
    have h4i : (8 : Int) < (n : Int) := by omega
    rw [hW] at HW
    clear HC g0 g1 hW
    go_enter Try.func42, Try.ntmps42
    go_wp2
    go_ret
    exact ⟨rfl, HW.out⟩
  have h4i : ¬ (8 : Int) < (n : Int) := by omega
  rw [hW] at g0 g1
  cases h5 : al
  · obtain rfl : ce = 9 := HCB.out fun h => by have := h.2.2; rw [← HAL.out, h5] at this; cases this
    rw [h5] at HC
    go_enter Try.func42, Try.ntmps42
    go_wp2_with fail
    rw [← hW]
    clear hW
    refine HC.mono ?_
    rintro e w2 ⟨rfl, hb2⟩
    go_wp2
    go_ret
    exact ⟨rfl, below_any HW.out hb2⟩
  · obtain rfl : ce = 0 := HCO.out ⟨⟨by simp only; omega, by simp only; omega⟩, ⟨by have := HN.out; simp only; omega, by have := HN.out; simp only; omega⟩, by rw [← HAL.out]; exact h5⟩
    rw [h5] at HC
    go_enter Try.func42, Try.ntmps42
    go_wp2_with fail
    rw [← hW]
    clear hW
    refine HC.mono ?_
    rintro e w2 ⟨rfl, hb2⟩
    go_wp2
    go_ret
    exact ⟨rfl, below_any HW.out hb2⟩

end Go.Proofs.Ytkpckadicjdieab
