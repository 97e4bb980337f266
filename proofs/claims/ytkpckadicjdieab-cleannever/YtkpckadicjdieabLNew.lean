/-
  What the program's New answers.
-/
import Derived.Test.YtkpckadicjdieabLGet
namespace Go.Proofs.Ytkpckadicjdieab
open Go.RowKit

set_option maxRecDepth 100000 in
set_option maxHeartbeats 4000000 in
theorem new_any (k : Int) (w : World) : Calls Try.prog 21 #[.int .i64 k] w (TellsS (nE k) (nS k) w) := by
  obtain ⟨post, hpost⟩ : ∃ post : Ending → World → Prop, post = TellsS (nE k) (nS k) w := ⟨_, rfl⟩
  have HNO : Hid (∀ w', nE k = 4 → Below w.heap.size w w' → post (.returned (.tuple #[.agg #[.slice none 0 0, .slice none 0 0, .slice none 0 0, .int .i64 0], .int .i64 4])) w') := fun w' e1 e3 => by
    rw [hpost]
    refine ⟨⟨_, by rw [e1], ?_⟩, e3⟩
    unfold nS
    rw [if_neg (by rw [e1]; decide)]
    exact s0_owns _ _
  have HYES : Hid (∀ us' w', nE k = 0 → stN.owns w.heap.size w' us' (List.replicate k.toNat (0, []), List.replicate k.toNat false, [], 1) → Below w.heap.size w w' → post (.returned (.tuple #[.agg us'.toArray, .int .i64 0])) w') := fun us' w' e1 e2 e3 => by
    rw [hpost]
    refine ⟨⟨us', by rw [e1], ?_⟩, e3⟩
    unfold nS
    rw [if_pos e1]
    exact e2
  rw [← hpost]
  clear hpost
  obtain ⟨W, hW⟩ : ∃ W, W = w.alloc (.cells #[.slice none 0 0, .slice none 0 0, .slice none 0 0, .int .i64 0] 31) := ⟨_, rfl⟩
  have hbW : Below w.heap.size w W := by rw [hW]; exact (Below.refl _ w).alloc (Nat.le_refl _) _
  have hB1 : Box W w.heap.size 31 #[.slice none 0 0, .slice none 0 0, .slice none 0 0, .int .i64 0] := by rw [hW]; exact Box.new _ _ _
  have HW : Hid (Below w.heap.size w W ∧ Box W w.heap.size 31 #[.slice none 0 0, .slice none 0 0, .slice none 0 0, .int .i64 0] ∧ W.heap.size = w.heap.size + 1) := ⟨hbW, hB1, by rw [hW]; simp⟩
  obtain ⟨g0, g1, g2, g3, f0, f1, f2, f3⟩ := hB1.four
  clear hbW hB1
  by_cases h1 : k < 1
  · have HE := HNO.out ((((W.setCell ⟨w.heap.size, 0, none⟩ (.slice none 0 0)).setCell ⟨w.heap.size, 1, none⟩ (.slice none 0 0)).setCell ⟨w.heap.size, 2, none⟩ (.slice none 0 0)).setCell ⟨w.heap.size, 3, none⟩ (.int .i64 0)) (by unfold nE; rw [if_pos (.inl h1)]) (below_set4 HW.out.1 (Nat.le_refl _) _ _ _ _)
    have HE : Hid _ := HE
    go_enter Try.func21, Try.ntmps21
    go_upto_region 1 with fail
    rw [← hW]
    clear hW
    go_wp2
    refine bodyPost_ret (v := .tuple #[.agg #[.slice none 0 0, .slice none 0 0, .slice none 0 0, .int .i64 0], .int .i64 4]) (by simp [results, Try.results21, go_sem, *]) rfl HE.out
  by_cases h2 : 64 < k
  · have HE := HNO.out ((((W.setCell ⟨w.heap.size, 0, none⟩ (.slice none 0 0)).setCell ⟨w.heap.size, 1, none⟩ (.slice none 0 0)).setCell ⟨w.heap.size, 2, none⟩ (.slice none 0 0)).setCell ⟨w.heap.size, 3, none⟩ (.int .i64 0)) (by unfold nE; rw [if_pos (.inr h2)]) (below_set4 HW.out.1 (Nat.le_refl _) _ _ _ _)
    have HE : Hid _ := HE
    go_enter Try.func21, Try.ntmps21
    go_upto_region 1 with fail
    rw [← hW]
    clear hW
    go_wp2
    refine bodyPost_ret (v := .tuple #[.agg #[.slice none 0 0, .slice none 0 0, .slice none 0 0, .int .i64 0], .int .i64 4]) (by simp [results, Try.results21, go_sem, *]) rfl HE.out
  obtain ⟨n, rfl⟩ : ∃ n : Nat, k = n := ⟨k.toNat, by omega⟩
  have HN : Hid (nE (n : Int) = 0 ∧ n ≤ 64) := ⟨by unfold nE; rw [if_neg (by omega)], by omega⟩
  rw [Int.toNat_natCast] at HYES
  obtain ⟨i1, hi1, hz10, hz11, hz12⟩ := info_parts Try.info45
  obtain ⟨i4, hi4, hz40, hz41, hz42⟩ := info_parts Try.info4
  have HMS : Hid (∀ U, w.heap.size + 1 ≤ U.heap.size → ∃ w', (Instr.makeSlice 28 (.int .i64 (n : Int)) (.int .i64 (n : Int))).run Try.prog U = .ok (.slice (some ⟨U.heap.size, 0, none⟩) n n) w' ∧ sgsN.owns (w.heap.size + 1) w' [.slice (some ⟨U.heap.size, 0, none⟩) n n] (List.replicate n (0, [])) ∧ U.grownBy w' none) := fun U hU => by
    obtain ⟨w', h1, h2, h3⟩ := run_make_full U (w.heap.size + 1) 28 45 i1 _ 2 Try.underlying28 hi1 hz10 hz11 .i64 .i64 n (by rw [hz12]; have := HN.out.2; omega) (by have := HN.out.2; unfold maxLen; omega) hU
    have hm : (madeCells (Value.agg #[.int .i64 0, .slice none 0 0]).cells (n * 2)).toList = (List.replicate n [Value.int .i64 0, Value.slice none 0 0]).flatten := made_two (.int .i64 0) (.slice none 0 0) n
    rw [hm] at h2
    exact ⟨w', h1, ⟨_, List.replicate n [.int .i64 0, .slice none 0 0], rfl, by rw [List.length_replicate]; exact h2, each_rep (sg_omkN (s := (0, [])) (Shape.list_nil bkN 29 Try.underlying29 cells29 _ _) ⟨by show _ ≤ (0 : Int); omega, by show (0 : Int) ≤ _; omega⟩) n⟩, h3⟩
  have HMB : Hid (∀ U, w.heap.size + 1 ≤ U.heap.size → ∃ w', (Instr.makeSlice 23 (.int .i64 (n : Int)) (.int .i64 (n : Int))).run Try.prog U = .ok (.slice (some ⟨U.heap.size, 0, none⟩) n n) w' ∧ boolsS.owns (w.heap.size + 1) w' [.slice (some ⟨U.heap.size, 0, none⟩) n n] (List.replicate n false) ∧ U.grownBy w' none) := fun U hU => by
    obtain ⟨w', h1, h2, h3⟩ := run_make_full U (w.heap.size + 1) 23 4 i4 _ 1 Try.underlying23 hi4 hz40 hz41 .i64 .i64 n (by rw [hz42]; have := HN.out.2; omega) (by have := HN.out.2; unfold maxLen; omega) hU
    have hm : (madeCells (Value.bool false).cells (n * 1)).toList = (List.replicate n false).map Value.bool := by rw [Nat.mul_one, List.map_replicate]; exact toList_madeCells_one _ _
    rw [hm] at h2
    exact ⟨w', h1, ⟨_, rfl, by rw [List.length_replicate]; exact h2, fun _ _ => trivial⟩, h3⟩
  have HEND : Hid (∀ a b w3, Below w.heap.size w w3 → sgsN.owns (w.heap.size + 1) w3 [a] (List.replicate n (0, [])) → boolsS.owns (w.heap.size + 1) w3 [b] (List.replicate n false) → post (.returned (.tuple #[.agg #[a, b, .slice none 0 0, .int .i64 1], .int .i64 0])) ((((w3.setCell ⟨w.heap.size, 0, none⟩ a).setCell ⟨w.heap.size, 1, none⟩ b).setCell ⟨w.heap.size, 2, none⟩ (.slice none 0 0)).setCell ⟨w.heap.size, 3, none⟩ (.int .i64 1))) := fun a b w3 hb h1 h2 => HYES.out [_, _, _, _] _ HN.out.1 (stN.oweaken (n := w.heap.size + 1) (stN.osame (st_omkN (s := (List.replicate n (0, []), List.replicate n false, [], 1)) h1 h2 (Shape.list_nil bkN 29 Try.underlying29 cells29 _ _) ⟨by show _ ≤ (1 : Int); omega, by show (1 : Int) ≤ _; omega⟩) (.set4 (by omega))) (by omega)) (below_set4 hb (Nat.le_refl _) _ _ _ _)
  have hni : (1 : Int) ≤ (n : Int) ∧ (n : Int) ≤ 64 := ⟨by omega, by omega⟩
  clear hi1 hz10 hz11 hz12 hi4 hz40 hz41 hz42
  go_enter Try.func21, Try.ntmps21
  go_upto_region 1 with fail
  rw [← hW]
  clear hW
  go_upto_region 3 with fail
  refine AnyBut.begin (fun _ => True) 1000 (by kernel_rfl) ?_
  have hSS : True := trivial
  refine tx 0 11 hSS ?_
  simp only [ua, ub, uc, ud]
  refine tx 2 13 hSS ?_
  simp only [ua, ub, uc, ud]
  refine AnyBut.two (i := 1) (j := 3) (by kernel_rfl) rfl rfl (fun K hK => ?_) (fun K hK => ?_)
  · obtain ⟨w1, hr1, ho1, hg1⟩ := HMS.out W.drew (by have := HW.out.2.2; show _ ≤ W.heap.size; omega)
    go_simp
    refine hK.out _ _ trivial ?_
    clear hK
    obtain ⟨w2, hr2, ho2, hg2⟩ := HMB.out w1 (by have := hg1.size; have := HW.out.2.2; have h9 : W.drew.heap.size = W.heap.size := rfl; omega)
    refine AnyBut.step (i := 3) (by kernel_rfl) rfl (fun K hK => ?_)
    go_simp
    refine hK.out _ _ trivial ?_
    clear hK
    refine tx 4 15 hSS ?_
    simp only [ua, ub, uc, ud]
    have hbx2 := ((HW.out.2.1.drew.grown hg1 (by simp)).grown hg2 (by simp))
    obtain ⟨y0, y1, y2, y3, j0, j1, j2, j3⟩ := hbx2.four
    have hb2 : Below w.heap.size w w2 := (HW.out.1.drew.grown hg1 HW.out.1.size (fun _ h => by cases h)).grown hg2 (by have := hg1.size; have := HW.out.1.size; have h9 : W.drew.heap.size = W.heap.size := rfl; omega) (fun _ h => by cases h)
    have HE : Hid _ := HEND.out _ _ w2 hb2 (sgsN.osame ho1 (fun k _ h => hg2.block k h (by simp))) ho2
    clear hb2 hbx2 ho1 ho2 hg1 hg2 hr1 hr2 g0 g1 g2 g3 f0 f1 f2 f3
    refine AnyBut.step (i := 5) (by kernel_rfl) rfl (fun K hK => ?_)
    go_simp
    refine hK.out _ _ trivial ?_
    clear hK
    refine tx 6 3 hSS ?_
    simp only [ua, ub, uc, ud]
    refine AnyBut.done (by kernel_rfl) ?_
    go_wp2
    refine bodyPost_ret (v := .tuple #[.agg #[_, _, .slice none 0 0, .int .i64 1], .int .i64 0]) (by simp [results, Try.results21, go_sem, *]) rfl HE.out
  · obtain ⟨w1, hr1, ho1, hg1⟩ := HMB.out W.drew (by have := HW.out.2.2; show _ ≤ W.heap.size; omega)
    go_simp
    refine hK.out _ _ trivial ?_
    clear hK
    obtain ⟨w2, hr2, ho2, hg2⟩ := HMS.out w1 (by have := hg1.size; have := HW.out.2.2; have h9 : W.drew.heap.size = W.heap.size := rfl; omega)
    refine AnyBut.step (i := 1) (by kernel_rfl) rfl (fun K hK => ?_)
    go_simp
    refine hK.out _ _ trivial ?_
    clear hK
    refine tx 4 15 hSS ?_
    simp only [ua, ub, uc, ud]
    have hbx2 := ((HW.out.2.1.drew.grown hg1 (by simp)).grown hg2 (by simp))
    obtain ⟨y0, y1, y2, y3, j0, j1, j2, j3⟩ := hbx2.four
    have hb2 : Below w.heap.size w w2 := (HW.out.1.drew.grown hg1 HW.out.1.size (fun _ h => by cases h)).grown hg2 (by have := hg1.size; have := HW.out.1.size; have h9 : W.drew.heap.size = W.heap.size := rfl; omega) (fun _ h => by cases h)
    have HE : Hid _ := HEND.out _ _ w2 hb2 ho2 (boolsS.osame ho1 (fun k _ h => hg2.block k h (by simp)))
    clear hb2 hbx2 ho1 ho2 hg1 hg2 hr1 hr2 g0 g1 g2 g3 f0 f1 f2 f3
    refine AnyBut.step (i := 5) (by kernel_rfl) rfl (fun K hK => ?_)
    go_simp
    refine hK.out _ _ trivial ?_
    clear hK
    refine tx 6 3 hSS ?_
    simp only [ua, ub, uc, ud]
    refine AnyBut.done (by kernel_rfl) ?_
    go_wp2
    refine bodyPost_ret (v := .tuple #[.agg #[_, _, .slice none 0 0, .int .i64 1], .int .i64 0]) (by simp [results, Try.results21, go_sem, *]) rfl HE.out

end Go.Proofs.Ytkpckadicjdieab
