/-
  What the program's Check answers, for every table.
-/
import Derived.Test.YtgfdggilplkmfaaNumbers
namespace Go.Proofs.Ytgfdggilplkmfaa
open Go.RowKit

set_option maxHeartbeats 400000 in
theorem isFree_any (q x : Int) (w : World) : Calls Try.prog 26 #[.agg #[.int .i64 q, .int .i64 x]] w fun e w' => e = .returned (.bool (decide (q = 0))) ∧ Below w.heap.size w w' := by
  have HB : Hid (Below w.heap.size w (w.alloc (.cells #[.int .i64 q, .int .i64 x] 57))) := (Below.refl _ w).alloc (Nat.le_refl _) _
  by_cases h : q = 0
  · subst h
    go_enter Try.func26, Try.ntmps26
    go_wp2
    go_ret
    exact ⟨by simp, HB.out⟩
  · have h' : (q == 0) = false := by simpa using h
    rw [decide_eq_false h]
    clear h
    go_enter Try.func26, Try.ntmps26
    go_wp2
    go_ret
    exact ⟨rfl, HB.out⟩

set_option maxHeartbeats 1000000 in
theorem mayHold_any (q x : Int) (w : World) : Calls Try.prog 23 #[.int .i64 q, .int .i64 x] w fun e w' => e = .returned (.bool (holdB q x)) ∧ w = w' := by
  obtain ⟨r, hr⟩ : ∃ r, r = holdB q x := ⟨_, rfl⟩
  have HR : Hid (r = holdB q x) := hr
  rw [← hr]
  clear hr
  have HNO : Hid (¬ (1 ≤ q ∧ q ≤ 1099511627776 ∧ 0 ≤ x ∧ x ≤ 8) → r = false) := fun h => by rw [HR.out]; exact decide_eq_false h
  by_cases h1 : 1 ≤ q
  case neg =>
    obtain rfl : r = false := HNO.out fun h => h1 h.1
    go_enter Try.func23, Try.ntmps23
    go_wp2
    go_ret
    exact ⟨rfl, rfl⟩
  by_cases h2 : q ≤ 1099511627776
  case neg =>
    obtain rfl : r = false := HNO.out fun h => h2 h.2.1
    go_enter Try.func23, Try.ntmps23
    go_wp2
    go_ret
    exact ⟨rfl, rfl⟩
  by_cases h3 : 0 ≤ x
  case neg =>
    obtain rfl : r = false := HNO.out fun h => h3 h.2.2.1
    go_enter Try.func23, Try.ntmps23
    go_wp2
    go_ret
    exact ⟨rfl, rfl⟩
  by_cases h4 : x ≤ 8
  case neg =>
    obtain rfl : r = false := HNO.out fun h => h4 h.2.2.2
    go_enter Try.func23, Try.ntmps23
    go_wp2
    go_ret
    exact ⟨rfl, rfl⟩
  obtain rfl : r = true := by rw [HR.out]; exact decide_eq_true ⟨h1, h2, h3, h4⟩
  go_enter Try.func23, Try.ntmps23
  go_wp2
  go_ret
  exact ⟨rfl, rfl⟩

set_option maxRecDepth 100000 in
set_option maxHeartbeats 1000000 in
theorem mayBe_any (q x : Int) (w : World) : Calls Try.prog 35 #[.agg #[.int .i64 q, .int .i64 x]] w fun e w' => e = .returned (.bool (mayB (q, x))) ∧ Below w.heap.size w w' := by
  obtain ⟨W, hW⟩ : ∃ W, W = w.alloc (.cells #[.int .i64 q, .int .i64 x] 57) := ⟨_, rfl⟩
  have hP : Box W w.heap.size 57 #[.int .i64 q, .int .i64 x] := by rw [hW]; exact Box.new w _ _
  have HW : Hid (Below w.heap.size w W ∧ Box W w.heap.size 57 #[.int .i64 q, .int .i64 x]) := ⟨by rw [hW]; exact (Below.refl _ w).alloc (Nat.le_refl _) _, hP⟩
  have HF := isFree_any q x W
  by_cases h : q = 0
  · rw [may_free (p := (q, x)) h]
    rw [decide_eq_true h] at HF
    clear h hP
    go_enter Try.func35, Try.ntmps35
    go_wp2_with fail
    rw [← hW]
    clear hW
    refine HF.mono ?_
    rintro e w2 ⟨rfl, hb2⟩
    obtain ⟨g0, g1, -, -⟩ := (HW.out.2.below hb2 HW.out.2.lt).two
    have HB2 : Hid (Below w.heap.size w w2) := below_any HW.out.1 hb2
    clear hb2
    go_wp2
    go_ret
    exact ⟨by congr 2, HB2.out⟩
  · rw [may_used (p := (q, x)) h]
    rw [decide_eq_false h] at HF
    clear h hP
    go_enter Try.func35, Try.ntmps35
    go_wp2_with fail
    rw [← hW]
    clear hW
    refine HF.mono ?_
    rintro e w2 ⟨rfl, hb2⟩
    obtain ⟨g0, g1, -, -⟩ := (HW.out.2.below hb2 HW.out.2.lt).two
    have HB2 : Hid (Below w.heap.size w w2) := below_any HW.out.1 hb2
    clear hb2
    go_wp2_with fail
    refine (mayHold_any q x w2).mono ?_
    rintro e w3 ⟨rfl, rfl⟩
    go_wp2
    go_ret
    exact ⟨rfl, HB2.out⟩

set_option maxRecDepth 100000 in
set_option maxHeartbeats 4000000 in
theorem wrong_any (l : List Sl) (B b : Nat) (ks : List Int) (q x : Int) (hq : I64 q) (w : World) (hB : w.cell? ⟨B, 0, none⟩ = some (.map (some b))) (hM : IM w b ks (fun x => (cnt l x : Int))) :
    Calls Try.prog 34 #[.agg #[.int .i64 q, .int .i64 x], .pointer (some ⟨B, 0, none⟩)] w fun e w' => e = .returned (.bool (!goodB l (q, x))) ∧ Below w.heap.size w w' := by
  obtain ⟨W, hW⟩ : ∃ W, W = w.alloc (.cells #[.int .i64 q, .int .i64 x] 57) := ⟨_, rfl⟩
  have hbW : Below w.heap.size w W := by rw [hW]; exact (Below.refl _ w).alloc (Nat.le_refl _) _
  have hP : Box W w.heap.size 57 #[.int .i64 q, .int .i64 x] := by rw [hW]; exact Box.new w _ _
  have HW : Hid (Below w.heap.size w W ∧ Box W w.heap.size 57 #[.int .i64 q, .int .i64 x] ∧ w.cell? ⟨B, 0, none⟩ = some (.map (some b)) ∧ IM w b ks (fun x => (cnt l x : Int)) ∧ I64 q) := ⟨hbW, hP, hB, hM, hq⟩
  obtain ⟨g0, g1, -, -⟩ := hP.two
  rw [hW] at g0 g1
  have HC := mayBe_any q x W
  clear hB hM hq hbW hP
  obtain ⟨r, hr⟩ : ∃ r, r = !goodB l (q, x) := ⟨_, rfl⟩
  have HR : Hid (r = !goodB l (q, x)) := hr
  rw [← hr]
  clear hr
  cases hm : mayB (q, x)
  · obtain rfl : r = true := by rw [HR.out]; simp [goodB, hm]
    rw [hm] at HC
    go_enter Try.func34, Try.ntmps34
    go_wp2_with fail
    rw [← hW]
    clear hW
    refine HC.mono ?_
    rintro e w2 ⟨rfl, hb2⟩
    have HB2 : Hid (Below w.heap.size w w2) := below_any HW.out.1 hb2
    clear hb2
    go_wp2
    go_ret
    exact ⟨rfl, HB2.out⟩
  rw [hm] at HC
  have HM : Hid (mayB (q, x) = true) := hm
  clear hm
  by_cases h0 : q = 0
  · subst h0
    obtain rfl : r = false := by rw [HR.out]; have := HM.out; simp [goodB, this]
    go_enter Try.func34, Try.ntmps34
    go_wp2_with fail
    rw [← hW]
    clear hW
    refine HC.mono ?_
    rintro e w2 ⟨rfl, hb2⟩
    have hb3 : Below w.heap.size w w2 := below_any HW.out.1 hb2
    obtain ⟨g0, g1, -, -⟩ := (HW.out.2.1.below hb2 HW.out.2.1.lt).two
    have HB2 : Hid (Below w.heap.size w w2) := hb3
    have HF := isFree_any 0 x w2
    rw [decide_eq_true rfl] at HF
    clear hb2 hb3
    go_wp2_with fail
    refine HF.mono ?_
    rintro e w3 ⟨rfl, hb4⟩
    have HB3 : Hid (Below w.heap.size w w3) := below_any HB2.out hb4
    clear hb4
    go_wp2
    go_ret
    exact ⟨rfl, HB3.out⟩
  have HG : Hid (goodB l (q, x) = decide (cnt l q ≤ 1)) := by
    show goodB l (q, x) = decide (cnt l q ≤ 1)
    have := HM.out
    simp [goodB, this, h0]
  go_enter Try.func34, Try.ntmps34
  go_wp2_with fail
  rw [← hW]
  clear hW
  refine HC.mono ?_
  rintro e w2 ⟨rfl, hb2⟩
  obtain ⟨g0, g1, -, -⟩ := (HW.out.2.1.below hb2 HW.out.2.1.lt).two
  have HB2 : Hid (Below w.heap.size w w2 ∧ Below W.heap.size W w2) := ⟨below_any HW.out.1 hb2, hb2⟩
  have HF := isFree_any q x w2
  rw [decide_eq_false h0] at HF
  clear hb2 h0
  go_wp2_with fail
  refine HF.mono ?_
  rintro e w3 ⟨rfl, hb4⟩
  have hb5 : Below w.heap.size w w3 := below_any HB2.out.1 hb4
  have hb6 : Below W.heap.size W w3 := below_any HB2.out.2 hb4
  obtain ⟨g0, g1, -, -⟩ := (HW.out.2.1.below hb6 HW.out.2.1.lt).two
  have hcB : w3.cell? ⟨B, 0, none⟩ = some (.map (some b)) := by rw [hb5.cell (cell_lt HW.out.2.2.1)]; exact HW.out.2.2.1
  obtain ⟨hlook, _⟩ := (HW.out.2.2.2.1.below hb5).look HW.out.2.2.2.2
  have HB3 : Hid (Below w.heap.size w w3) := hb5
  obtain ⟨cn, hcn⟩ : ∃ cn : Nat, cn = cnt l q := ⟨_, rfl⟩
  have HCN : Hid (cn = cnt l q) := hcn
  rw [← hcn] at hlook
  clear hcn hb4 hb5 hb6
  by_cases h1 : 1 < cn
  · obtain rfl : r = true := by rw [HR.out, HG.out, ← HCN.out]; simp; omega
    have h1i : (1 : Int) < (cn : Int) := by omega
    go_wp2
    go_ret
    exact ⟨rfl, HB3.out⟩
  · obtain rfl : r = false := by rw [HR.out, HG.out, ← HCN.out]; simp; omega
    have h1i : ¬ (1 : Int) < (cn : Int) := by omega
    go_wp2
    go_ret
    exact ⟨congrArg (fun b => Ending.returned (.bool b)) (decide_eq_false (by omega)), HB3.out⟩

end Go.Proofs.Ytgfdggilplkmfaa
