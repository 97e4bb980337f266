/-
  Points as data, the program's and the document's; what Check answers of them, on both sides.
-/
import Derived.Test.YthlfgpnabcplnaaDoorTf21
import Derived.Test.YthlfgpnabcplnaaDoorTf30
import Derived.Test.YthlfgpnabcplnaaDoorTf19
import Derived.Deep.DeepCutAuto
namespace Go.Proofs.YthlfgpnabcplnaaDoor.W
open Go.RowKit

/-- A point: Epoch, Seq, View, Commit, Data. -/
abbrev Pt := Int × Int × Int × Int × List Int
def ptF : Fields Pt := i64S.and (i64S.and (i64S.and (i64S.and bytesS.only)))
def ptN : Shape Pt := ptF.struct 29 ⟨_, Tryd.underlying29, rfl, rfl⟩ (by kernel_rfl)
def ptR : Shape Pt := ptF.struct 24 ⟨_, Tryd.underlying24, rfl, rfl⟩ (by kernel_rfl)
theorem pt_view {n : Nat} {w : World} {us : List Value} {q : Pt} (h : ptF.lies n w us q) : ∃ a c, us = [.int .i64 q.1, .int .i64 q.2.1, .int .i64 q.2.2.1, .int .i64 q.2.2.2.1, .slice a q.2.2.2.2.length c] ∧ Arg n w (.slice a q.2.2.2.2.length c) q.2.2.2.2 ∧ I64 q.1 ∧ I64 q.2.1 ∧ I64 q.2.2.1 ∧ I64 q.2.2.2.1 := by
  obtain ⟨u1, r1, rfl, ⟨rfl, h1⟩, u2, r2, rfl, ⟨rfl, h2⟩, u3, r3, rfl, ⟨rfl, h3⟩, u4, r4, rfl, ⟨rfl, h4⟩, h6⟩ := h
  have h6' := h6
  obtain ⟨v, rfl, hC, ho⟩ := h6
  obtain ⟨a, c, rfl, _⟩ := hC.shape
  exact ⟨a, c, rfl, h6', bounds_i64 h1, bounds_i64 h2, bounds_i64 h3, bounds_i64 h4⟩

/-- A number within the bound of all numbers. -/
def inN (x : Int) : Bool := decide (0 ≤ x) && decide (x ≤ 1099511627776)
theorem inN_iff {x : Int} : inN x = true ↔ 0 ≤ x ∧ x ≤ 1099511627776 := by simp [inN]
/-- What Check tells of a point with so many octets. -/
def ptE (e s v c : Int) (n : Nat) : Int := if inN e = true ∧ inN s = true ∧ inN v = true ∧ inN c = true then (if 400 < n then 5 else 0) else 4
theorem ptE_ok {e s v c : Int} {n : Nat} (h : ptE e s v c n = 0) : inN e = true ∧ inN s = true ∧ inN v = true ∧ inN c = true ∧ n ≤ 400 := by
  unfold ptE at h
  by_cases h1 : inN e = true ∧ inN s = true ∧ inN v = true ∧ inN c = true
  · rw [if_pos h1] at h
    by_cases h2 : 400 < n
    · rw [if_pos h2] at h; cases h
    · exact ⟨h1.1, h1.2.1, h1.2.2.1, h1.2.2.2, by omega⟩
  · rw [if_neg h1] at h; cases h
theorem ok_ptE {e s v c : Int} {n : Nat} (h : inN e = true) (h2 : inN s = true) (h3 : inN v = true) (h4 : inN c = true) (h5 : n ≤ 400) : ptE e s v c n = 0 := by
  unfold ptE
  rw [if_pos ⟨h, h2, h3, h4⟩, if_neg (by omega)]

theorem box5 {w : World} {B : Nat} {t : TypeId} {u0 u1 u2 u3 u4 : Value} (h : Box w B t #[u0, u1, u2, u3, u4]) : (w.cell? ⟨B, 0, none⟩ = some u0 ∧ w.cell? ⟨B, 1, none⟩ = some u1 ∧ w.cell? ⟨B, 2, none⟩ = some u2 ∧ w.cell? ⟨B, 3, none⟩ = some u3 ∧ w.cell? ⟨B, 4, none⟩ = some u4) ∧ (w.frozen? ⟨B, 0, none⟩ = false ∧ w.frozen? ⟨B, 1, none⟩ = false ∧ w.frozen? ⟨B, 2, none⟩ = false ∧ w.frozen? ⟨B, 3, none⟩ = false ∧ w.frozen? ⟨B, 4, none⟩ = false) :=
  ⟨⟨h.cell 0 rfl, h.cell 1 rfl, h.cell 2 rfl, h.cell 3 rfl, h.cell 4 rfl⟩, h.frozen 0, h.frozen 1, h.frozen 2, h.frozen 3, h.frozen 4⟩
/-- Five stores into one block. -/
abbrev set5 (W : World) (B : Nat) (u0 u1 u2 u3 u4 : Value) : World := ((((W.setCell ⟨B, 0, none⟩ u0).setCell ⟨B, 1, none⟩ u1).setCell ⟨B, 2, none⟩ u2).setCell ⟨B, 3, none⟩ u3).setCell ⟨B, 4, none⟩ u4
theorem below_set5 {B n : Nat} {w W : World} (h : Below n w W) (hn : n ≤ B) (u0 u1 u2 u3 u4 : Value) : Below n w (set5 W B u0 u1 u2 u3 u4) := ((((h.setCell (p := ⟨B, 0, none⟩) hn u0).setCell (p := ⟨B, 1, none⟩) hn u1).setCell (p := ⟨B, 2, none⟩) hn u2).setCell (p := ⟨B, 3, none⟩) hn u3).setCell (p := ⟨B, 4, none⟩) hn u4
theorem same_set5 {n B : Nat} {w : World} {u0 u1 u2 u3 u4 : Value} (hB : B < n) : Same n w (set5 w B u0 u1 u2 u3 u4) := Same.trans (.set hB) (by simp [World.setCell]) (Same.trans (.set hB) (by simp [World.setCell]) (Same.trans (.set hB) (by simp [World.setCell]) (Same.trans (.set hB) (by simp [World.setCell]) (.set hB))))
theorem box_set5 {w : World} {B : Nat} {t : TypeId} {v0 v1 v2 v3 v4 : Value} (h : Box w B t #[v0, v1, v2, v3, v4]) (u0 u1 u2 u3 u4 : Value) : Box (set5 w B u0 u1 u2 u3 u4) B t #[u0, u1, u2, u3, u4] := ((((h.set 0 u0).set 1 u1).set 2 u2).set 3 u3).set 4 u4
theorem box_oth5 {w : World} {B C : Nat} {t : TypeId} {cs : Array Value} (h : Box w C t cs) (hne : C ≠ B) (u0 u1 u2 u3 u4 : Value) : Box (set5 w B u0 u1 u2 u3 u4) C t cs := ((((h.other hne).other hne).other hne).other hne).other hne
theorem cells_box {n0 : Nat} {w : World} {B : Nat} {t : TypeId} {cs : Array Value} {n : Nat} (h : Box w B t cs) (hn : cs.size = n) (hm : n ≤ maxLen) (hb : n0 ≤ B) : Cells n0 w 1 (.slice (some ⟨B, 0, none⟩) n n) n cs.toList :=
  ⟨by simp [hn], .inr ⟨⟨B, 0, none⟩, n, rfl, Nat.le_refl _, hm, hb, fun j u hj => by
    rw [add_plain, Nat.zero_add]
    exact h.cell j (by simpa using hj)⟩⟩

set_option maxHeartbeats 400000 in
theorem within_any (x : Int) (w : World) : Calls Tryd.prog 32 #[.int .i64 x, .int .i64 1099511627776] w fun e w' => e = .returned (.bool (inN x)) ∧ w = w' := by
  obtain ⟨b, hb⟩ : ∃ b, b = inN x := ⟨_, rfl⟩
  rw [← hb]
  unfold inN at hb
  by_cases h0 : 0 ≤ x
  · by_cases h1 : x ≤ 1099511627776
    · obtain rfl : b = true := by rw [hb]; simp [h0, h1]
      clear hb
      go_enter Tryd.func32, Tryd.ntmps32
      go_wp2
      go_ret
      exact ⟨rfl, rfl⟩
    · obtain rfl : b = false := by rw [hb]; simp [h1]
      clear hb
      go_enter Tryd.func32, Tryd.ntmps32
      go_wp2
      go_ret
      exact ⟨rfl, rfl⟩
  · obtain rfl : b = false := by rw [hb]; simp [h0]
    clear hb
    go_enter Tryd.func32, Tryd.ntmps32
    go_wp2
    go_ret
    exact ⟨rfl, rfl⟩

set_option maxRecDepth 100000 in
set_option maxHeartbeats 2000000 in
theorem pcheck_any (e s v c : Int) (a : Option Addr) (n cap : Nat) (hn : n ≤ maxLen) (w : World) :
    Calls Tryd.prog 17 #[.agg #[.int .i64 e, .int .i64 s, .int .i64 v, .int .i64 c, .slice a n cap]] w fun r w' => r = .returned (.int .i64 (ptE e s v c n)) ∧ Below w.heap.size w w' := by
  obtain ⟨W1, hW1⟩ : ∃ W, W = w.alloc (.cells #[.int .i64 e, .int .i64 s, .int .i64 v, .int .i64 c, .slice a n cap] 29) := ⟨_, rfl⟩
  have hb1 : Below w.heap.size w W1 := by rw [hW1]; exact (Below.refl _ w).alloc (Nat.le_refl _) _
  have hB1 : Box W1 w.heap.size 29 #[.int .i64 e, .int .i64 s, .int .i64 v, .int .i64 c, .slice a n cap] := by rw [hW1]; exact Box.new _ _ _
  have hl := run_len Tryd.underlying22 a n cap
  have HB : Hid (Below w.heap.size w W1) := hb1
  obtain ⟨⟨g0, g1, g2, g3, g4⟩, -⟩ := box5 hB1
  obtain ⟨k, hk⟩ : ∃ k, k = ptE e s v c n := ⟨_, rfl⟩
  rw [← hk]
  unfold ptE at hk
  unfold maxLen at hn
  have HE := within_any e W1
  have HS := within_any s W1
  have HV := within_any v W1
  have HC := within_any c W1
  rw [hW1] at HE HS HV HC g0 g1 g2 g3 g4 HB
  clear hB1 hb1 hW1
  cases he : inN e
  · obtain rfl : k = 4 := by rw [hk, if_neg (by simp [he])]
    rw [he] at HE
    clear he
    clear hk
    go_enter Tryd.func17, Tryd.ntmps17
    go_wp2_with (first | (with_reducible refine Calls.mono HE ?_; rintro _ _ ⟨rfl, rfl⟩) | (with_reducible refine Calls.mono HS ?_; rintro _ _ ⟨rfl, rfl⟩) | (with_reducible refine Calls.mono HV ?_; rintro _ _ ⟨rfl, rfl⟩) | (with_reducible refine Calls.mono HC ?_; rintro _ _ ⟨rfl, rfl⟩))
    go_ret
    exact ⟨rfl, HB.out⟩
  · rw [he] at HE
    cases hs : inN s
    · obtain rfl : k = 4 := by rw [hk, if_neg (by simp [hs])]
      rw [hs] at HS
      clear he hs
      clear hk
      go_enter Tryd.func17, Tryd.ntmps17
      go_wp2_with (first | (with_reducible refine Calls.mono HE ?_; rintro _ _ ⟨rfl, rfl⟩) | (with_reducible refine Calls.mono HS ?_; rintro _ _ ⟨rfl, rfl⟩) | (with_reducible refine Calls.mono HV ?_; rintro _ _ ⟨rfl, rfl⟩) | (with_reducible refine Calls.mono HC ?_; rintro _ _ ⟨rfl, rfl⟩))
      go_ret
      exact ⟨rfl, HB.out⟩
    · rw [hs] at HS
      cases hv : inN v
      · obtain rfl : k = 4 := by rw [hk, if_neg (by simp [hv])]
        rw [hv] at HV
        clear he hs hv
        clear hk
        go_enter Tryd.func17, Tryd.ntmps17
        go_wp2_with (first | (with_reducible refine Calls.mono HE ?_; rintro _ _ ⟨rfl, rfl⟩) | (with_reducible refine Calls.mono HS ?_; rintro _ _ ⟨rfl, rfl⟩) | (with_reducible refine Calls.mono HV ?_; rintro _ _ ⟨rfl, rfl⟩) | (with_reducible refine Calls.mono HC ?_; rintro _ _ ⟨rfl, rfl⟩))
        go_ret
        exact ⟨rfl, HB.out⟩
      · rw [hv] at HV
        cases hc : inN c
        · obtain rfl : k = 4 := by rw [hk, if_neg (by simp [hc])]
          rw [hc] at HC
          clear he hs hv hc
          clear hk
          go_enter Tryd.func17, Tryd.ntmps17
          go_wp2_with (first | (with_reducible refine Calls.mono HE ?_; rintro _ _ ⟨rfl, rfl⟩) | (with_reducible refine Calls.mono HS ?_; rintro _ _ ⟨rfl, rfl⟩) | (with_reducible refine Calls.mono HV ?_; rintro _ _ ⟨rfl, rfl⟩) | (with_reducible refine Calls.mono HC ?_; rintro _ _ ⟨rfl, rfl⟩))
          go_ret
          exact ⟨rfl, HB.out⟩
        · rw [hc] at HC
          by_cases h4 : (400 : Int) < (n : Int)
          · obtain rfl : k = 5 := by rw [hk, if_pos ⟨he, hs, hv, hc⟩, if_pos (by omega)]
            clear he hs hv hc
            clear hk
            go_enter Tryd.func17, Tryd.ntmps17
            go_wp2_with (first | (with_reducible refine Calls.mono HE ?_; rintro _ _ ⟨rfl, rfl⟩) | (with_reducible refine Calls.mono HS ?_; rintro _ _ ⟨rfl, rfl⟩) | (with_reducible refine Calls.mono HV ?_; rintro _ _ ⟨rfl, rfl⟩) | (with_reducible refine Calls.mono HC ?_; rintro _ _ ⟨rfl, rfl⟩))
            go_ret
            exact ⟨rfl, HB.out⟩
          · obtain rfl : k = 0 := by rw [hk, if_pos ⟨he, hs, hv, hc⟩, if_neg (by omega)]
            clear he hs hv hc
            clear hk
            go_enter Tryd.func17, Tryd.ntmps17
            go_wp2_with (first | (with_reducible refine Calls.mono HE ?_; rintro _ _ ⟨rfl, rfl⟩) | (with_reducible refine Calls.mono HS ?_; rintro _ _ ⟨rfl, rfl⟩) | (with_reducible refine Calls.mono HV ?_; rintro _ _ ⟨rfl, rfl⟩) | (with_reducible refine Calls.mono HC ?_; rintro _ _ ⟨rfl, rfl⟩))
            go_ret
            exact ⟨rfl, HB.out⟩

set_option maxRecDepth 100000 in
set_option maxHeartbeats 2000000 in
theorem rpcheck_any (e s v c : Int) (a : Option Addr) (n cap : Nat) (hn : n ≤ maxLen) (w : World) :
    Calls Tryd.prog 14 #[.agg #[.int .i64 e, .int .i64 s, .int .i64 v, .int .i64 c, .slice a n cap]] w fun r w' => r = .returned (.int .i64 (ptE e s v c n)) ∧ Below w.heap.size w w' := by
  obtain ⟨W1, hW1⟩ : ∃ W, W = w.alloc (.cells #[.int .i64 e, .int .i64 s, .int .i64 v, .int .i64 c, .slice a n cap] 24) := ⟨_, rfl⟩
  have hb1 : Below w.heap.size w W1 := by rw [hW1]; exact (Below.refl _ w).alloc (Nat.le_refl _) _
  have hB1 : Box W1 w.heap.size 24 #[.int .i64 e, .int .i64 s, .int .i64 v, .int .i64 c, .slice a n cap] := by rw [hW1]; exact Box.new _ _ _
  obtain ⟨W2, hW2⟩ : ∃ W, W = W1.alloc (.cells #[.int .i64 e, .int .i64 s, .int .i64 v, .int .i64 c] 3) := ⟨_, rfl⟩
  have hb2 : Below W1.heap.size W1 W2 := by rw [hW2]; exact (Below.refl _ W1).alloc (Nat.le_refl _) _
  have hB2 : Box W2 W1.heap.size 3 #[.int .i64 e, .int .i64 s, .int .i64 v, .int .i64 c] := by rw [hW2]; exact Box.new _ _ _
  have HB : Hid (Below w.heap.size w W2) := below_any hb1 hb2
  obtain ⟨⟨g0, g1, g2, g3, g4⟩, -⟩ := box5 hB1
  have f4 : W2.cell? ⟨w.heap.size, 4, none⟩ = some (.slice a n cap) := (hB1.below hb2 hB1.lt).cell 4 rfl
  obtain ⟨i0, hi, hz0, hz1, hz2⟩ := info_parts Tryd.info3
  have hc : ∀ (i : Nat) (u : Int), [e, s, v, c][i]? = some u → W2.cell? ⟨W1.heap.size, i, none⟩ = some (.int .i64 u) := fun i u hu => by
    match i, hu with
    | 0, h => injection h with h; subst h; exact hB2.cell 0 rfl
    | 1, h => injection h with h; subst h; exact hB2.cell 1 rfl
    | 2, h => injection h with h; subst h; exact hB2.cell 2 rfl
    | 3, h => injection h with h; subst h; exact hB2.cell 3 rfl
  have hx : ∀ (i : Nat), i < 4 → ∀ W, (Instr.indexAt 51 (.slice (some ⟨W1.heap.size, 0, none⟩) 4 4) (.int .i64 i)).run Tryd.prog W = .ok (.pointer (some ⟨W1.heap.size, i, none⟩)) W := fun i h W => by
    have := run_index Tryd.underlying51 hi hz1 W1.heap.size 0 4 4 i h W
    rwa [Nat.mul_one, Nat.zero_add] at this
  have hl := run_len Tryd.underlying22 a n cap
  have hl2 := run_len Tryd.underlying51 (some ⟨W1.heap.size, 0, none⟩) 4 4
  have hs1 : W1.heap.size = w.heap.size + 1 := by rw [hW1]; exact Array.size_push _
  rw [hs1] at hc hx hl2
  have HX : Hid (∀ (i : Nat), i < 4 → ∀ W, (Instr.indexAt 51 (.slice (some ⟨w.heap.size + 1, 0, none⟩) 4 4) (.int .i64 i)).run Tryd.prog W = .ok (.pointer (some ⟨w.heap.size + 1, i, none⟩)) W) := hx
  have HCE : Hid (∀ (i : Nat) (u : Int), [e, s, v, c][i]? = some u → W2.cell? ⟨w.heap.size + 1, i, none⟩ = some (.int .i64 u)) := hc
  obtain ⟨k, hk⟩ : ∃ k, k = ptE e s v c n := ⟨_, rfl⟩
  have HK : Hid (k = ptE e s v c n) := hk
  rw [← hk]
  unfold maxLen at hn
  rw [hW1] at g0 g1 g2 g3 g4
  clear hB1 hb1 hb2 hB2 hc hx hk hs1
  go_enter Tryd.func14, Tryd.ntmps14
  go_upto_region 2 with fail
  rw [← hW1]
  rw [← hW2]
  clear hW1 hW2 g0 g1 g2 g3 g4
  go_wp2
  go_loop [4] (fun i => ∃ k : Nat, k ≤ 4 ∧ i = .int .i64 k ∧ Hid (∀ j u, j < k → [e, s, v, c][j]? = some u → inN u = true)) (fun i => 4 - (intOf i).toNat)
  case atStart => exact ⟨0, Nat.zero_le _, rfl, fun j u h => by omega⟩
  case round =>
    obtain ⟨j, hj, rfl, HI⟩ := hrel
    by_cases hlt : j < 4
    · obtain ⟨u, hu⟩ : ∃ u, [e, s, v, c][j]? = some u := ⟨_, List.getElem?_eq_getElem hlt⟩
      have hix := HX.out j hlt
      have hcell := HCE.out j u hu
      have HU : Hid ([e, s, v, c][j]? = some u) := hu
      have hji : (j : Int) < 4 := by omega
      clear hu
      by_cases hin : 0 ≤ u ∧ u ≤ 1099511627776
      · have HI2 : Hid (∀ i x, i < j + 1 → [e, s, v, c][i]? = some x → inN x = true) := fun i x hi hx => by
          by_cases h : i = j
          · subst h
            rw [HU.out] at hx
            injection hx with hx
            subst hx
            exact inN_iff.2 hin
          · exact HI.out i x (by omega) hx
        obtain ⟨h1, h2⟩ := hin
        have h1' : ¬ u < 0 := by omega
        have h2' : ¬ (1099511627776 : Int) < u := by omega
        clear h1 h2
        go_wp2
        go_round
        case rel => exact ⟨j + 1, by omega, by go_num, HI2⟩
        case measure => simp [intOf]; omega
      · have HQ : Hid (k = 4) := by
          show k = 4
          rw [HK.out]
          unfold ptE
          rw [if_neg]
          rintro ⟨a1, a2, a3, a4⟩
          have hu := HU.out
          have : inN u = true := by
            match j, hlt, hu with
            | 0, _, h => injection h with h; subst h; exact a1
            | 1, _, h => injection h with h; subst h; exact a2
            | 2, _, h => injection h with h; subst h; exact a3
            | 3, _, h => injection h with h; subst h; exact a4
          exact hin (inN_iff.1 this)
        by_cases h0 : u < 0
        · clear hin
          go_wp2
          go_ret
          exact ⟨by rw [HQ.out]; rfl, HB.out⟩
        · have h2 : (1099511627776 : Int) < u := by omega
          clear hin
          go_wp2
          go_ret
          exact ⟨by rw [HQ.out]; rfl, HB.out⟩
    · obtain rfl : j = 4 := by omega
      have hall : inN e = true ∧ inN s = true ∧ inN v = true ∧ inN c = true := ⟨HI.out 0 e (by omega) rfl, HI.out 1 s (by omega) rfl, HI.out 2 v (by omega) rfl, HI.out 3 c (by omega) rfl⟩
      by_cases h4 : (400 : Int) < (n : Int)
      · have HQ : Hid (k = 5) := by
          show k = 5
          rw [HK.out]
          unfold ptE
          rw [if_pos hall, if_pos (by omega)]
        clear hall
        go_wp2
        go_ret
        exact ⟨by rw [HQ.out]; rfl, HB.out⟩
      · have HQ : Hid (k = 0) := by
          show k = 0
          rw [HK.out]
          unfold ptE
          rw [if_pos hall, if_neg (by omega)]
        clear hall
        go_wp2
        go_ret
        exact ⟨by rw [HQ.out]; rfl, HB.out⟩

end Go.Proofs.YthlfgpnabcplnaaDoor.W
