import Derived.Test.YtkpckadicjdieaaZ11
import Derived.Test.YtkpckadicjdieaaZ8
import Derived.Test.YtkpckadicjdieaaZ4
import Derived.Test.YtkpckadicjdieaaZ12
import Derived.Test.YtkpckadicjdieaaZ7
/-
  What the program's New answers.
-/
namespace Go.Proofs.Ytkpckadicjdieaa
open Go.RowKit

set_option maxRecDepth 100000 in
set_option maxHeartbeats 4000000 in
theorem new_any (k : Int) (w : World) : Calls Try.prog 24 #[.int .i64 k] w (TellsS (nE k) (nS k) w) := by
  obtain ⟨post, hpost⟩ : ∃ post : Ending → World → Prop, post = TellsS (nE k) (nS k) w := ⟨_, rfl⟩
  have HNO : Hid (∀ w', nE k = 4 → Below w.heap.size w w' → post (.returned (.tuple #[.agg #[.slice none 0 0, .slice none 0 0, .slice none 0 0, .int .i64 0], .int .i64 4])) w') := fun w' e1 e3 => by
    rw [hpost]
    refine ⟨⟨_, by rw [e1], ?_⟩, e3⟩
    unfold nS
    rw [if_neg (by rw [e1]; decide)]
    exact s0_owns _ _
  have HYES : Hid (∀ us' w', nE k = 0 → stN.owns w.heap.size w' us' (List.replicate k.toNat (0, []), List.replicate k.toNat false, [], 1) → Below w.heap.size w w' → post (.returned (.tuple #[.agg us'.toArray, .int .i64 0])) w') := fun us' w' e1 e2 e3 => by
    rw [hpost]
    refine ⟨⟨us', by rw [e1], ?_⟩, e3⟩
    unfold nS
    rw [if_pos e1]
    exact e2
  rw [← hpost]
  clear hpost
  obtain ⟨W, hW⟩ : ∃ W, W = w.alloc (.cells #[.slice none 0 0, .slice none 0 0, .slice none 0 0, .int .i64 0] 33) := ⟨_, rfl⟩
  have hbW : Below w.heap.size w W := by rw [hW]; exact (Below.refl _ w).alloc (Nat.le_refl _) _
  have hB1 : Box W w.heap.size 33 #[.slice none 0 0, .slice none 0 0, .slice none 0 0, .int .i64 0] := by rw [hW]; exact Box.new _ _ _
  have HW : Hid (Below w.heap.size w W ∧ Box W w.heap.size 33 #[.slice none 0 0, .slice none 0 0, .slice none 0 0, .int .i64 0] ∧ W.heap.size = w.heap.size + 1) := ⟨hbW, hB1, by rw [hW]; simp⟩
  obtain ⟨g0, g1, g2, g3, f0, f1, f2, f3⟩ := hB1.four
  clear hbW hB1
  by_cases h1 : k < 1
  · have HE := HNO.out ((((W.setCell ⟨w.heap.size, 0, none⟩ (.slice none 0 0)).setCell ⟨w.heap.size, 1, none⟩ (.slice none 0 0)).setCell ⟨w.heap.size, 2, none⟩ (.slice none 0 0)).setCell ⟨w.heap.size, 3, none⟩ (.int .i64 0)) (by unfold nE; rw [if_pos (.inl h1)]) (below_set4 HW.out.1 (Nat.le_refl _) _ _ _ _)
    have HE : Hid _ := HE
    go_enter Try.func24, Try.ntmps24
    go_upto_region 1 with fail
    rw [← hW]
    clear hW
    go_wp2
    refine bodyPost_ret (v := .tuple #[.agg #[.slice none 0 0, .slice none 0 0, .slice none 0 0, .int .i64 0], .int .i64 4]) (by simp [results, Try.results24, go_sem, *]) rfl HE.out
  by_cases h2 : 64 < k
  · have HE := HNO.out ((((W.setCell ⟨w.heap.size, 0, none⟩ (.slice none 0 0)).setCell ⟨w.heap.size, 1, none⟩ (.slice none 0 0)).setCell ⟨w.heap.size, 2, none⟩ (.slice none 0 0)).setCell ⟨w.heap.size, 3, none⟩ (.int .i64 0)) (by unfold nE; rw [if_pos (.inr h2)]) (below_set4 HW.out.1 (Nat.le_refl _) _ _ _ _)
    have HE : Hid _ := HE
    go_enter Try.func24, Try.ntmps24
    go_upto_region 1 with fail
    rw [← hW]
    clear hW
    go_wp2
    refine bodyPost_ret (v := .tuple #[.agg #[.slice none 0 0, .slice none 0 0, .slice none 0 0, .int .i64 0], .int .i64 4]) (by simp [results, Try.results24, go_sem, *]) rfl HE.out
  obtain ⟨n, rfl⟩ : ∃ n : Nat, k = n := ⟨k.toNat, by omega⟩
  have HN : Hid (nE (n : Int) = 0 ∧ n ≤ 64) := ⟨by unfold nE; rw [if_neg (by omega)], by omega⟩
  rw [Int.toNat_natCast] at HYES
  obtain ⟨i1, hi1, hz10, hz11, hz12⟩ := info_parts Try.info88
  obtain ⟨i4, hi4, hz40, hz41, hz42⟩ := info_parts Try.info4
  have HMS : Hid (∀ U, w.heap.size + 1 ≤ U.heap.size → ∃ w', (Instr.makeSlice 30 (.int .i64 (n : Int)) (.int .i64 (n : Int))).run Try.prog U = .ok (.slice (some ⟨U.heap.size, 0, none⟩) n n) w' ∧ sgsN.owns (w.heap.size + 1) w' [.slice (some ⟨U.heap.size, 0, none⟩) n n] (List.replicate n (0, [])) ∧ U.grownBy w' none) := fun U hU => by
    obtain ⟨w', h1, h2, h3⟩ := run_make_full U (w.heap.size + 1) 30 88 i1 _ 2 Try.underlying30 hi1 hz10 hz11 .i64 .i64 n (by rw [hz12]; have := HN.out.2; omega) (by have := HN.out.2; unfold maxLen; omega) hU
    have hm : (madeCells (Value.agg #[.int .i64 0, .slice none 0 0]).cells (n * 2)).toList = (List.replicate n [Value.int .i64 0, Value.slice none 0 0]).flatten := made_two (.int .i64 0) (.slice none 0 0) n
    rw [hm] at h2
    exact ⟨w', h1, ⟨_, List.replicate n [.int .i64 0, .slice none 0 0], rfl, by rw [List.length_replicate]; exact h2, each_rep (sg_omkN (s := (0, [])) (Shape.list_nil bkN 31 Try.underlying31 cells31 _ _) ⟨by show _ ≤ (0 : Int); omega, by show (0 : Int) ≤ _; omega⟩) n⟩, h3⟩
  have HMB : Hid (∀ U, w.heap.size + 1 ≤ U.heap.size → ∃ w', (Instr.makeSlice 23 (.int .i64 (n : Int)) (.int .i64 (n : Int))).run Try.prog U = .ok (.slice (some ⟨U.heap.size, 0, none⟩) n n) w' ∧ boolsS.owns (w.heap.size + 1) w' [.slice (some ⟨U.heap.size, 0, none⟩) n n] (List.replicate n false) ∧ U.grownBy w' none) := fun U hU => by
    obtain ⟨w', h1, h2, h3⟩ := run_make_full U (w.heap.size + 1) 23 4 i4 _ 1 Try.underlying23 hi4 hz40 hz41 .i64 .i64 n (by rw [hz42]; have := HN.out.2; omega) (by have := HN.out.2; unfold maxLen; omega) hU
    have hm : (madeCells (Value.bool false).cells (n * 1)).toList = (List.replicate n false).map Value.bool := by rw [Nat.mul_one, List.map_replicate]; exact toList_madeCells_one _ _
    rw [hm] at h2
    exact ⟨w', h1, ⟨_, rfl, by rw [List.length_replicate]; exact h2, fun _ _ => trivial⟩, h3⟩
  have HEND : Hid (∀ a b w3, Below w.heap.size w w3 → sgsN.owns (w.heap.size + 1) w3 [a] (List.replicate n (0, [])) → boolsS.owns (w.heap.size + 1) w3 [b] (List.replicate n false) → post (.returned (.tuple #[.agg #[a, b, .slice none 0 0, .int .i64 1], .int .i64 0])) ((((w3.setCell ⟨w.heap.size, 0, none⟩ a).setCell ⟨w.heap.size, 1, none⟩ b).setCell ⟨w.heap.size, 2, none⟩ (.slice none 0 0)).setCell ⟨w.heap.size, 3, none⟩ (.int .i64 1))) := fun a b w3 hb h1 h2 => HYES.out [_, _, _, _] _ HN.out.1 (stN.oweaken (n := w.heap.size + 1) (stN.osame (st_omkN (s := (List.replicate n (0, []), List.replicate n false, [], 1)) h1 h2 (Shape.list_nil bkN 31 Try.underlying31 cells31 _ _) ⟨by show _ ≤ (1 : Int); omega, by show (1 : Int) ≤ _; omega⟩) (.set4 (by omega))) (by omega)) (below_set4 hb (Nat.le_refl _) _ _ _ _)
  have hni : (1 : Int) ≤ (n : Int) ∧ (n : Int) ≤ 64 := ⟨by omega, by omega⟩
  clear hi1 hz10 hz11 hz12 hi4 hz40 hz41 hz42
  go_enter Try.func24, Try.ntmps24
  go_upto_region 1 with fail
  rw [← hW]
  clear hW
  go_upto_region 3 with fail
  refine AnyBut.begin (fun _ => True) 1000 (by kernel_rfl) ?_
  have hSS : True := trivial
  refine tx 0 11 hSS ?_
  simp only [ua, ub, uc, ud]
  refine tx 2 13 hSS ?_
  simp only [ua, ub, uc, ud]
  refine AnyBut.two (i := 1) (j := 3) (by kernel_rfl) rfl rfl (fun K hK => ?_) (fun K hK => ?_)
  · obtain ⟨w1, hr1, ho1, hg1⟩ := HMS.out W.drew (by have := HW.out.2.2; show _ ≤ W.heap.size; omega)
    go_simp
    refine hK.out _ _ trivial ?_
    clear hK
    obtain ⟨w2, hr2, ho2, hg2⟩ := HMB.out w1 (by have := hg1.size; have := HW.out.2.2; have h9 : W.drew.heap.size = W.heap.size := rfl; omega)
    refine AnyBut.step (i := 3) (by kernel_rfl) rfl (fun K hK => ?_)
    go_simp
    refine hK.out _ _ trivial ?_
    clear hK
    refine tx 4 15 hSS ?_
    simp only [ua, ub, uc, ud]
    have hbx2 := ((HW.out.2.1.drew.grown hg1 (by simp)).grown hg2 (by simp))
    obtain ⟨y0, y1, y2, y3, j0, j1, j2, j3⟩ := hbx2.four
    have hb2 : Below w.heap.size w w2 := (HW.out.1.drew.grown hg1 HW.out.1.size (fun _ h => by cases h)).grown hg2 (by have := hg1.size; have := HW.out.1.size; have h9 : W.drew.heap.size = W.heap.size := rfl; omega) (fun _ h => by cases h)
    have HE : Hid _ := HEND.out _ _ w2 hb2 (sgsN.osame ho1 (fun k _ h => hg2.block k h (by simp))) ho2
    clear hb2 hbx2 ho1 ho2 hg1 hg2 hr1 hr2 g0 g1 g2 g3 f0 f1 f2 f3
    refine AnyBut.step (i := 5) (by kernel_rfl) rfl (fun K hK => ?_)
    go_simp
    refine hK.out _ _ trivial ?_
    clear hK
    refine tx 6 3 hSS ?_
    simp only [ua, ub, uc, ud]
    refine AnyBut.done (by kernel_rfl) ?_
    go_wp2
    refine bodyPost_ret (v := .tuple #[.agg #[_, _, .slice none 0 0, .int .i64 1], .int .i64 0]) (by simp [results, Try.results24, go_sem, *]) rfl HE.out
  · obtain ⟨w1, hr1, ho1, hg1⟩ := HMB.out W.drew (by have := HW.out.2.2; show _ ≤ W.heap.size; omega)
    go_simp
    refine hK.out _ _ trivial ?_
    clear hK
    obtain ⟨w2, hr2, ho2, hg2⟩ := HMS.out w1 (by have := hg1.size; have := HW.out.2.2; have h9 : W.drew.heap.size = W.heap.size := rfl; omega)
    refine AnyBut.step (i := 1) (by kernel_rfl) rfl (fun K hK => ?_)
    go_simp
    refine hK.out _ _ trivial ?_
    clear hK
    refine tx 4 15 hSS ?_
    simp only [ua, ub, uc, ud]
    have hbx2 := ((HW.out.2.1.drew.grown hg1 (by simp)).grown hg2 (by simp))
    obtain ⟨y0, y1, y2, y3, j0, j1, j2, j3⟩ := hbx2.four
    have hb2 : Below w.heap.size w w2 := (HW.out.1.drew.grown hg1 HW.out.1.size (fun _ h => by cases h)).grown hg2 (by have := hg1.size; have := HW.out.1.size; have h9 : W.drew.heap.size = W.heap.size := rfl; omega) (fun _ h => by cases h)
    have HE : Hid _ := HEND.out _ _ w2 hb2 ho2 (boolsS.osame ho1 (fun k _ h => hg2.block k h (by simp)))
    clear hb2 hbx2 ho1 ho2 hg1 hg2 hr1 hr2 g0 g1 g2 g3 f0 f1 f2 f3
    refine AnyBut.step (i := 5) (by kernel_rfl) rfl (fun K hK => ?_)
    go_simp
    refine hK.out _ _ trivial ?_
    clear hK
    refine tx 6 3 hSS ?_
    simp only [ua, ub, uc, ud]
    refine AnyBut.done (by kernel_rfl) ?_
    go_wp2
    refine bodyPost_ret (v := .tuple #[.agg #[_, _, .slice none 0 0, .int .i64 1], .int .i64 0]) (by simp [results, Try.results24, go_sem, *]) rfl HE.out

end Go.Proofs.Ytkpckadicjdieaa

/-
  The laws' own helpers: a store for the program, in memory of its own; whether two are alike.
-/
namespace Go.Proofs.Ytkpckadicjdieaa
open Go.RowKit

set_option maxHeartbeats 1000000 in
theorem cbools_any (n0 : Nat) (v : Value) (l : List Bool) (w : World) (h : boolsS.lies n0 w [v] l) (hs : l.length ≤ 140737488355328) :
    Calls Try.prog 38 #[v] w fun e w' => (∃ v', e = .returned v' ∧ boolsS.owns w.heap.size w' [v'] l) ∧ Below w.heap.size w w' := by
  obtain ⟨i0, hi, hz0, hz1, hz2⟩ := info_parts Try.info4
  obtain ⟨v', hv, hC, _⟩ := h
  obtain rfl : v = v' := by simpa using hv
  obtain ⟨hl, h | ⟨x, cap, rfl, hcap, hm, _, hc⟩⟩ := hC
  · obtain ⟨rfl, h0⟩ := h
    obtain rfl := List.eq_nil_of_length_eq_zero h0
    go_enter Try.func38, Try.ntmps38
    go_wp2_with (at_builtin; refine wpList_append_own_none rfl _ _ 23 rfl w.heap.size 4 i0 1 Try.underlying23 hi (.slice none 0 0) 0 [] rfl (World.ownsRow_nil _ _ _ _) rfl ?_)
    go_ret
    exact ⟨⟨_, rfl, ⟨_, rfl, World.ownsRow_nil _ _ _ _, fun _ _ => trivial⟩⟩, Below.refl _ _⟩
  · have hone : ∀ u ∈ l.map bL.val, u.oneCell' = true := fun u hu => by
      obtain ⟨y, _, rfl⟩ := List.mem_map.1 hu
      rfl
    go_enter Try.func38, Try.ntmps38
    go_wp2_with (at_builtin; refine wpList_append_own _ rfl _ _ 23 rfl w.heap.size 4 i0 (.bool false) 1 1 Try.underlying23 hi hz0 hz1 hz2 rfl (by decide) (.slice none 0 0) 0 [] rfl (World.ownsRow_nil _ _ _ _) x l.length cap (l.map bL.val) rfl (by simp) hc hone (by omega) (by omega) (Nat.le_refl _) ?_)
    intro v' w1 hown hgrow _
    have hb : Below w.heap.size w w1 := (Below.refl _ _).grown hgrow (Nat.le_refl _) (fun _ h => by cases h)
    clear hgrow hc hone
    go_wp2
    go_ret
    exact ⟨⟨v', rfl, ⟨_, rfl, (show w1.ownsRow w.heap.size 4 1 v' l.length (l.map bL.val) by simpa using hown), fun _ _ => trivial⟩⟩, hb⟩

theorem own_set4 {α : Type} (S : Shape α) (hid : 33 ∉ S.ids) {n B : Nat} {w : World} {us : List Value} {x : α} {cs : Array Value} (h : S.owns n w us x) (hB : Box w B 33 cs) (u v y z : Value) : S.owns n ((((w.setCell ⟨B, 0, none⟩ u).setCell ⟨B, 1, none⟩ v).setCell ⟨B, 2, none⟩ y).setCell ⟨B, 3, none⟩ z) us x :=
  S.ogrown (S.ogrown (S.ogrown (S.ogrown h (grown_set w B 0 u) (hB.clear hid)) (grown_set _ B 1 v) ((hB.set 0 u).clear hid)) (grown_set _ B 2 y) (((hB.set 0 u).set 1 v).clear hid)) (grown_set _ B 3 z) ((((hB.set 0 u).set 1 v).set 2 y).clear hid)

set_option maxRecDepth 100000 in
set_option maxHeartbeats 2000000 in
theorem sbools_true (n1 n2 : Nat) (v1 v2 : Value) (l : List Bool) (w : World) (h1 : boolsS.lies n1 w [v1] l) (h2 : boolsS.lies n2 w [v2] l) :
    Calls Try.prog 56 #[v1, v2] w fun e w' => e = .returned (.bool true) ∧ ∃ q, w' = w.drewN q := by
  obtain ⟨a1, c1, e1, _, m1, _⟩ := Leaf.row_len (L := bL) (ht := Try.underlying23) (hc := cells23) h1
  obtain ⟨a2, c2, e2, _, m2, _⟩ := Leaf.row_len (L := bL) (ht := Try.underlying23) (hc := cells23) h2
  obtain rfl : v1 = _ := by simpa using e1
  obtain rfl : v2 = _ := by simpa using e2
  obtain ⟨n, hn⟩ : ∃ n, n = l.length := ⟨_, rfl⟩
  rw [← hn] at h1 h2 m1 m2 ⊢
  unfold maxLen at m1
  have HL : Hid (boolsS.lies n1 w [.slice a1 n c1] l ∧ boolsS.lies n2 w [.slice a2 n c2] l ∧ n = l.length) := ⟨h1, h2, hn⟩
  have hl1 := run_len Try.underlying23 a1 n c1
  have hl2 := run_len Try.underlying23 a2 n c2
  clear h1 h2 e1 e2 hn m2
  go_enter Try.func56, Try.ntmps56
  go_wp2
  go_loopw [5] (fun i wr => ∃ k : Nat, k ≤ n ∧ i = .int .i64 k ∧ ∃ q, wr = w.drewN q) (fun i _ => n - (intOf i).toNat)
  case atStart => exact ⟨0, Nat.zero_le _, rfl, 0, rfl⟩
  case round =>
    obtain ⟨k, hk, rfl, q, rfl⟩ := hrel
    by_cases hlt : k < n
    · obtain ⟨x, hx⟩ := get_lt (l := l) (k := k) (by rw [← HL.out.2.2]; exact hlt)
      obtain ⟨b1, o1, hix1, _, g1⟩ := bools_at HL.out.1 k x hx
      obtain ⟨b2, o2, hix2, _, g2⟩ := bools_at HL.out.2.1 k x hx
      have hkn : (k : Int) < (n : Int) := by omega
      clear hx
      cases x with
      | true =>
        go_wp2
        go_quiet (fail)
        go_wp2
        go_roundw
        case rel => exact ⟨k + 1, by omega, by go_num, _, rfl⟩
        case measure => simp [intOf]; omega
      | false =>
        go_wp2
        go_quiet (fail)
        go_wp2
        go_roundw
        case rel => exact ⟨k + 1, by omega, by go_num, _, rfl⟩
        case measure => simp [intOf]; omega
    · obtain rfl : k = n := by omega
      go_wp2
      go_ret
      exact ⟨rfl, q, rfl⟩

end Go.Proofs.Ytkpckadicjdieaa

/-
  A block put with room made ahead of it (clean).
-/
namespace Go.Proofs.Ytkpckadicjdieaa
open Go.ChangeShapes Go.WideShapes Go.ChangeAt Go.RowKit
set_option linter.unusedVariables false

set_option maxRecDepth 100000 in
set_option maxHeartbeats 8000000 in
theorem putx_any (n0 n1 : Nat) (us : List Value) (s : St) (ub : List Value) (p : Bk) (w : World) (h : stN.lies n0 w us s) (hp : bkN.lies n1 w ub p) :
    Calls Try.prog 84 #[.agg us.toArray, .agg ub.toArray] w (TellsS (ptE s p) (ptS s p) w) := by
  obtain ⟨a0, n0, c0, b0, m0, d0, e0, k0, f0, q0, rfl, -, hk0, hk1, -⟩ := st_flatNl h
  obtain ⟨pa, pc, rfl, hPA, hpo, hpi⟩ := bk_view hp
  obtain ⟨po, pi, pd⟩ := p
  simp only at hPA hpo hpi ⊢
  obtain ⟨pm, hpm⟩ : ∃ z, z = pd.length := ⟨_, rfl⟩
  simp only [← hpm] at hp hPA ⊢
  obtain ⟨post, hpost⟩ : ∃ post : Ending → World → Prop, post = TellsS (ptE s (po, pi, pd)) (ptS s (po, pi, pd)) w := ⟨_, rfl⟩
  have HPo : Hid (∀ us' k t w', k = ptE s (po, pi, pd) → t = ptS s (po, pi, pd) → stN.owns w.heap.size w' us' t → Below w.heap.size w w' → post (.returned (.tuple #[.agg us'.toArray, .int .i64 k])) w') := fun us' k t w' e1 e2 e3 e4 => by
    rw [hpost, e1]
    rw [e2] at e3
    exact ⟨⟨us', rfl, e3⟩, e4⟩
  rw [← hpost]
  clear hpost
  obtain ⟨W, hW⟩ : ∃ W, W = ((w.alloc (.cells #[.slice a0 n0 c0, .slice b0 m0 d0, .slice e0 k0 f0, .int .i64 q0] 33)).alloc (.cells #[.int .i64 po, .int .i64 pi, .slice pa pm pc] 36)).alloc (.cells #[.slice none 0 0, .slice none 0 0, .slice none 0 0, .int .i64 0] 33) := ⟨_, rfl⟩
  have HB : Hid (Below w.heap.size w W) := by rw [hW]; exact (((Below.refl _ w).alloc (Nat.le_refl _) _).alloc (by simp) _).alloc (by simp; omega) _
  have HX : Hid (Box W w.heap.size 33 #[.slice a0 n0 c0, .slice b0 m0 d0, .slice e0 k0 f0, .int .i64 q0] ∧ Box W (w.heap.size + 1) 36 #[.int .i64 po, .int .i64 pi, .slice pa pm pc] ∧ Box W (w.heap.size + 2) 33 #[.slice none 0 0, .slice none 0 0, .slice none 0 0, .int .i64 0]) := by
    rw [hW]
    refine ⟨((Box.new _ _ _).alloc _).alloc _, ?_, ?_⟩
    · have := Box.new (w.alloc (.cells #[.slice a0 n0 c0, .slice b0 m0 d0, .slice e0 k0 f0, .int .i64 q0] 33)) 36 #[.int .i64 po, .int .i64 pi, .slice pa pm pc]
      rw [World.size_alloc] at this
      exact this.alloc _
    · have := Box.new ((w.alloc (.cells #[.slice a0 n0 c0, .slice b0 m0 d0, .slice e0 k0 f0, .int .i64 q0] 33)).alloc (.cells #[.int .i64 po, .int .i64 pi, .slice pa pm pc] 36)) 33 #[.slice none 0 0, .slice none 0 0, .slice none 0 0, .int .i64 0]
      rwa [World.size_alloc, World.size_alloc] at this
  have HL : Hid (∀ V, Below w.heap.size w V → stN.lies 0 V [.slice a0 n0 c0, .slice b0 m0 d0, .slice e0 k0 f0, .int .i64 q0] s ∧ bkN.lies 0 V [.int .i64 po, .int .i64 pi, .slice pa pm pc] (po, pi, pd)) := fun V hV => ⟨stN.below (stN.weaken h (Nat.zero_le _)) hV, bkN.below (bkN.weaken hp (Nat.zero_le _)) hV⟩
  have HK : Hid (k0 = s.2.2.1.length) := hk0
  have hl0 := run_len Try.underlying31 e0 k0 f0
  clear h hp hPA hpo hpi hpm hk0
  go_enter Try.func84, Try.ntmps84
  go_upto_region 1 with fail
  rw [← hW]
  clear hW
  by_cases h8 : k0 = 8
  · subst h8
    obtain ⟨se, hse⟩ : ∃ z, z = sE s := ⟨_, rfl⟩
    obtain ⟨sp, hsp⟩ : ∃ z, z = sP s := ⟨_, rfl⟩
    have HC := seal_any 0 [.slice a0 n0 c0, .slice b0 m0 d0, .slice e0 8 f0, .int .i64 q0] s W (HL.out W HB.out).1
    rw [← hse, ← hsp] at HC
    have HSE : Hid (se = sE s) := hse
    obtain ⟨x0, x1, x2, x3, -⟩ := HX.out.1.four
    clear hse hsp
    go_wp2_with fail
    clear x0 x1 x2 x3
    refine HC.mono ?_
    rintro e1 w1 ⟨⟨us1, rfl, ho1⟩, hb1⟩
    obtain ⟨a1, n1, c1, b1, m1, d1, e1, k1, f1, q1, rfl⟩ := st_fl ho1
    have hX1 := HX.out.1.below hb1 HX.out.1.lt
    have hX2 := HX.out.2.1.below hb1 HX.out.2.1.lt
    have hX3 := HX.out.2.2.below hb1 HX.out.2.2.lt
    obtain ⟨z0, z1, z2, z3, i0, i1, i2, i3⟩ := hX1.four
    obtain ⟨X, hX⟩ : ∃ X, X = (((w1.setCell ⟨w.heap.size, 0, none⟩ (.slice a1 n1 c1)).setCell ⟨w.heap.size, 1, none⟩ (.slice b1 m1 d1)).setCell ⟨w.heap.size, 2, none⟩ (.slice e1 k1 f1)).setCell ⟨w.heap.size, 3, none⟩ (.int .i64 q1) := ⟨_, rfl⟩
    have HBX : Hid (Below w.heap.size w X) := by rw [hX]; exact below_set4 (below_any HB.out hb1) (Nat.le_refl _) _ _ _ _
    have HXX : Hid (Box X w.heap.size 33 #[.slice a1 n1 c1, .slice b1 m1 d1, .slice e1 k1 f1, .int .i64 q1] ∧ Box X (w.heap.size + 1) 36 #[.int .i64 po, .int .i64 pi, .slice pa pm pc] ∧ Box X (w.heap.size + 2) 33 #[.slice none 0 0, .slice none 0 0, .slice none 0 0, .int .i64 0]) := by
      rw [hX]
      exact ⟨(((hX1.set 0 _).set 1 _).set 2 _).set 3 _, (((hX2.other (by omega)).other (by omega)).other (by omega)).other (by omega), (((hX3.other (by omega)).other (by omega)).other (by omega)).other (by omega)⟩
    have HO : Hid (stN.lies 0 X [.slice a1 n1 c1, .slice b1 m1 d1, .slice e1 k1 f1, .int .i64 q1] (sS s)) := by rw [hX]; exact stN.weaken (stN.olies (own_set4 stN (by decide) ho1 hX1 _ _ _ _)) (Nat.zero_le _)
    go_upto_region 4 with fail
    rw [← hX]
    clear hX HC ho1 hb1 hX1 hX2 hX3 z0 z1 z2 z3 i0 i1 i2 i3
    by_cases hz : se = 0
    · subst hz
      obtain ⟨pe, hpe⟩ : ∃ z, z = pE (sS s) (po, pi, pd) := ⟨_, rfl⟩
      have HC := put_any 0 0 [.slice a1 n1 c1, .slice b1 m1 d1, .slice e1 k1 f1, .int .i64 q1] (sS s) [.int .i64 po, .int .i64 pi, .slice pa pm pc] (po, pi, pd) X HO.out (HL.out X HBX.out).2 (Nat.zero_le _)
      rw [← hpe] at HC
      have HPE : Hid (pe = pE (sS s) (po, pi, pd)) := hpe
      obtain ⟨x0, x1, x2, x3, -⟩ := HXX.out.1.four
      obtain ⟨v0, v1, v2, -⟩ := HXX.out.2.1.three
      clear hpe
      go_wp2_with fail
      clear x0 x1 x2 x3 v0 v1 v2
      refine HC.mono ?_
      rintro e8 w8 ⟨⟨us8, rfl, ho8⟩, hb8⟩
      obtain ⟨a8, n8, c8, b8, m8, d8, e8, k8, f8, q8, rfl⟩ := st_fl ho8
      have hR := HXX.out.2.2.below hb8 HXX.out.2.2.lt
      obtain ⟨y0, y1, y2, y3, j0, j1, j2, j3⟩ := hR.four
      have HE : Hid (post (.returned (.tuple #[.agg #[.slice a8 n8 c8, .slice b8 m8 d8, .slice e8 k8 f8, .int .i64 q8], .int .i64 pe])) ((((w8.setCell ⟨(w.heap.size + 2), 0, none⟩ (.slice a8 n8 c8)).setCell ⟨(w.heap.size + 2), 1, none⟩ (.slice b8 m8 d8)).setCell ⟨(w.heap.size + 2), 2, none⟩ (.slice e8 k8 f8)).setCell ⟨(w.heap.size + 2), 3, none⟩ (.int .i64 q8))) := HPo.out [.slice a8 n8 c8, .slice b8 m8 d8, .slice e8 k8 f8, .int .i64 q8] pe (pS (sS s) (po, pi, pd)) _ (by unfold ptE; rw [if_pos HK.out.symm, if_pos HSE.out.symm]; exact HPE.out) (by unfold ptS; rw [if_pos HK.out.symm, if_pos HSE.out.symm]) (own_set4 stN (by decide) (stN.oweaken ho8 HBX.out.size) hR _ _ _ _) (below_set4 (below_any HBX.out hb8) (by omega) _ _ _ _)
      clear HC ho8 hb8 hR
      go_wp2
      refine bodyPost_ret (v := .tuple #[.agg #[.slice a8 n8 c8, .slice b8 m8 d8, .slice e8 k8 f8, .int .i64 q8], .int .i64 pe]) (by simp [results, Try.results84, go_sem, *]) rfl HE.out
    · have hzb : (se == 0) = false := by simpa using hz
      have hR := HXX.out.2.2
      obtain ⟨y0, y1, y2, y3, j0, j1, j2, j3⟩ := hR.four
      have HE : Hid (post (.returned (.tuple #[.agg #[.slice none 0 0, .slice none 0 0, .slice none 0 0, .int .i64 0], .int .i64 se])) ((((X.setCell ⟨(w.heap.size + 2), 0, none⟩ (.slice none 0 0)).setCell ⟨(w.heap.size + 2), 1, none⟩ (.slice none 0 0)).setCell ⟨(w.heap.size + 2), 2, none⟩ (.slice none 0 0)).setCell ⟨(w.heap.size + 2), 3, none⟩ (.int .i64 0))) := HPo.out [.slice none 0 0, .slice none 0 0, .slice none 0 0, .int .i64 0] se s0 _ (by unfold ptE; rw [if_pos HK.out.symm, if_neg (by rw [← HSE.out]; exact hz)]; exact HSE.out) (by unfold ptS; rw [if_pos HK.out.symm, if_neg (by rw [← HSE.out]; exact hz)]) (s0_owns _ _) (below_set4 HBX.out (by omega) _ _ _ _)
      clear hR
      go_wp2
      refine bodyPost_ret (v := .tuple #[.agg #[.slice none 0 0, .slice none 0 0, .slice none 0 0, .int .i64 0], .int .i64 se]) (by simp [results, Try.results84, go_sem, *]) rfl HE.out
  · have h8i : ((k0 : Int) == 8) = false := by simp; omega
    have h8j : ¬ (k0 : Int) = 8 := by omega
    have HK8 : Hid (¬ s.2.2.1.length = 8) := by rw [← HK.out]; exact h8
    obtain ⟨g0, g1, g2, g3, -⟩ := HX.out.1.four
    obtain ⟨pe, hpe⟩ : ∃ z, z = pE s (po, pi, pd) := ⟨_, rfl⟩
    have HC := put_any 0 0 [.slice a0 n0 c0, .slice b0 m0 d0, .slice e0 k0 f0, .int .i64 q0] s [.int .i64 po, .int .i64 pi, .slice pa pm pc] (po, pi, pd) W (HL.out W HB.out).1 (HL.out W HB.out).2 (Nat.zero_le _)
    rw [← hpe] at HC
    have HPE : Hid (pe = pE s (po, pi, pd)) := hpe
    obtain ⟨x0, x1, x2, x3, -⟩ := HX.out.1.four
    obtain ⟨v0, v1, v2, -⟩ := HX.out.2.1.three
    clear hpe
    go_wp2_with fail
    clear x0 x1 x2 x3 v0 v1 v2
    refine HC.mono ?_
    rintro e8 w8 ⟨⟨us8, rfl, ho8⟩, hb8⟩
    obtain ⟨a8, n8, c8, b8, m8, d8, e8, k8, f8, q8, rfl⟩ := st_fl ho8
    have hR := HX.out.2.2.below hb8 HX.out.2.2.lt
    obtain ⟨y0, y1, y2, y3, j0, j1, j2, j3⟩ := hR.four
    have HE : Hid (post (.returned (.tuple #[.agg #[.slice a8 n8 c8, .slice b8 m8 d8, .slice e8 k8 f8, .int .i64 q8], .int .i64 pe])) ((((w8.setCell ⟨(w.heap.size + 2), 0, none⟩ (.slice a8 n8 c8)).setCell ⟨(w.heap.size + 2), 1, none⟩ (.slice b8 m8 d8)).setCell ⟨(w.heap.size + 2), 2, none⟩ (.slice e8 k8 f8)).setCell ⟨(w.heap.size + 2), 3, none⟩ (.int .i64 q8))) := HPo.out [.slice a8 n8 c8, .slice b8 m8 d8, .slice e8 k8 f8, .int .i64 q8] pe (pS s (po, pi, pd)) _ (by unfold ptE; rw [if_neg HK8.out]; exact HPE.out) (by unfold ptS; rw [if_neg HK8.out]) (own_set4 stN (by decide) (stN.oweaken ho8 HB.out.size) hR _ _ _ _) (below_set4 (below_any HB.out hb8) (by omega) _ _ _ _)
    clear HC ho8 hb8 hR
    go_wp2
    refine bodyPost_ret (v := .tuple #[.agg #[.slice a8 n8 c8, .slice b8 m8 d8, .slice e8 k8 f8, .int .i64 q8], .int .i64 pe]) (by simp [results, Try.results84, go_sem, *]) rfl HE.out

end Go.Proofs.Ytkpckadicjdieaa

/-
  Several blocks put and sealed (clean).
-/
namespace Go.Proofs.Ytkpckadicjdieaa
open Go.ChangeShapes Go.WideShapes Go.ChangeAt Go.RowKit
set_option linter.unusedVariables false

set_option maxRecDepth 100000 in
set_option maxHeartbeats 8000000 in
theorem moved_any (n0 n1 : Nat) (us : List Value) (s : St) (v : Value) (l : List Bk) (w : World) (h : stN.lies n0 w us s) (hl : bksN.lies n1 w [v] l) :
    Calls Try.prog 69 #[.agg us.toArray, v] w fun e w' => (∃ us', e = .returned (.tuple #[.agg us'.toArray, .int .i64 (movE l s)]) ∧ ((us' = us ∧ movS l s = s) ∨ stN.owns w.heap.size w' us' (movS l s))) ∧ Below w.heap.size w w' := by
  obtain ⟨a0, n0, c0, b0, m0, d0, e0, k0, f0, q0, rfl, -, hk0, hk1, -⟩ := st_flatNl h
  obtain ⟨va, vc, e0', _, hm, _⟩ := Shape.list_len (S := bkN) (ht := Try.underlying31) (hc := cells31) hl
  obtain rfl : v = _ := (List.cons.inj e0').1
  obtain ⟨n, hn⟩ : ∃ n, n = l.length := ⟨_, rfl⟩
  rw [← hn] at hl hm ⊢
  unfold maxLen at hm
  obtain ⟨post, hpost⟩ : ∃ post : Ending → World → Prop, post = fun e w' => (∃ us', e = .returned (.tuple #[.agg us'.toArray, .int .i64 (movE l s)]) ∧ ((us' = [.slice a0 n0 c0, .slice b0 m0 d0, .slice e0 k0 f0, .int .i64 q0] ∧ movS l s = s) ∨ stN.owns w.heap.size w' us' (movS l s))) ∧ Below w.heap.size w w' := ⟨_, rfl⟩
  have HPo : Hid (∀ us' k w', k = movE l s → ((us' = [.slice a0 n0 c0, .slice b0 m0 d0, .slice e0 k0 f0, .int .i64 q0] ∧ movS l s = s) ∨ stN.owns w.heap.size w' us' (movS l s)) → Below w.heap.size w w' → post (.returned (.tuple #[.agg us'.toArray, .int .i64 k])) w') := fun us' k w' e1 e2 e3 => by
    rw [hpost, e1]
    exact ⟨⟨us', rfl, e2⟩, e3⟩
  rw [← hpost]
  clear hpost
  obtain ⟨W, hW⟩ : ∃ W, W = (w.alloc (.cells #[.slice a0 n0 c0, .slice b0 m0 d0, .slice e0 k0 f0, .int .i64 q0] 33)).alloc (.cells #[.slice none 0 0, .slice none 0 0, .slice none 0 0, .int .i64 0] 33) := ⟨_, rfl⟩
  have HB : Hid (Below w.heap.size w W) := by rw [hW]; exact ((Below.refl _ w).alloc (Nat.le_refl _) _).alloc (by simp) _
  have HX : Hid (Box W w.heap.size 33 #[.slice a0 n0 c0, .slice b0 m0 d0, .slice e0 k0 f0, .int .i64 q0] ∧ Box W (w.heap.size + 1) 33 #[.slice none 0 0, .slice none 0 0, .slice none 0 0, .int .i64 0]) := by
    rw [hW]
    refine ⟨(Box.new _ _ _).alloc _, ?_⟩
    have := Box.new (w.alloc (.cells #[.slice a0 n0 c0, .slice b0 m0 d0, .slice e0 k0 f0, .int .i64 q0] 33)) 33 #[.slice none 0 0, .slice none 0 0, .slice none 0 0, .int .i64 0]
    rwa [World.size_alloc] at this
  have HL : Hid (∀ V, Below w.heap.size w V → stN.lies 0 V [.slice a0 n0 c0, .slice b0 m0 d0, .slice e0 k0 f0, .int .i64 q0] s ∧ bksN.lies 0 V [.slice va n vc] l) := fun V hV => ⟨stN.below (stN.weaken h (Nat.zero_le _)) hV, bksN.below (bksN.weaken hl (Nat.zero_le _)) hV⟩
  have HN : Hid (n = l.length) := hn
  have hl0 := run_len Try.underlying31 va n vc
  clear h hl e0' hn hk0 hk1
  go_enter Try.func69, Try.ntmps69
  go_upto_region 1 with fail
  rw [← hW]
  clear hW
  by_cases hz : n = 0
  · subst hz
    obtain ⟨x0, x1, x2, x3, -⟩ := HX.out.1.four
    have hR := HX.out.2
    obtain ⟨y0, y1, y2, y3, j0, j1, j2, j3⟩ := hR.four
    have hnil : l = [] := List.eq_nil_of_length_eq_zero HN.out.symm
    have HE : Hid (post (.returned (.tuple #[.agg #[.slice a0 n0 c0, .slice b0 m0 d0, .slice e0 k0 f0, .int .i64 q0], .int .i64 0])) ((((W.setCell ⟨(w.heap.size + 1), 0, none⟩ (.slice a0 n0 c0)).setCell ⟨(w.heap.size + 1), 1, none⟩ (.slice b0 m0 d0)).setCell ⟨(w.heap.size + 1), 2, none⟩ (.slice e0 k0 f0)).setCell ⟨(w.heap.size + 1), 3, none⟩ (.int .i64 q0))) := HPo.out [.slice a0 n0 c0, .slice b0 m0 d0, .slice e0 k0 f0, .int .i64 q0] 0 _ (by unfold movE; rw [if_pos hnil]) (.inl ⟨rfl, by unfold movS; rw [if_pos hnil]⟩) (below_set4 HB.out (by omega) _ _ _ _)
    clear hR hnil
    go_wp2
    refine bodyPost_ret (v := .tuple #[.agg #[.slice a0 n0 c0, .slice b0 m0 d0, .slice e0 k0 f0, .int .i64 q0], .int .i64 0]) (by simp [results, Try.results69, go_sem, *]) rfl HE.out
  have hzb : ((n : Int) == 0) = false := by simp; omega
  have hzi : ¬ (n : Int) = 0 := by omega
  have HNE : Hid (l ≠ []) := fun c => hz (by rw [HN.out, c]; rfl)
  clear hz
  go_wp2
  go_loopw [17] (fun i wr => ∃ k : Nat, k ≤ n ∧ i = .int .i64 k ∧ Hid (Below w.heap.size w wr ∧ Box wr (w.heap.size + 1) 33 #[.slice none 0 0, .slice none 0 0, .slice none 0 0, .int .i64 0] ∧ mvE (l.take k) s = 0 ∧ ∃ us9 : List Value, Box wr w.heap.size 33 us9.toArray ∧ (((us9 : List Value) = [.slice a0 n0 c0, .slice b0 m0 d0, .slice e0 k0 f0, .int .i64 q0] ∧ (mvS (l.take k) s) = s) ∨ stN.owns w.heap.size wr us9 (mvS (l.take k) s)))) (fun i _ => n - (intOf i).toNat)
  case atStart => exact ⟨0, Nat.zero_le _, rfl, HB.out, HX.out.2, rfl, [.slice a0 n0 c0, .slice b0 m0 d0, .slice e0 k0 f0, .int .i64 q0], HX.out.1, .inl ⟨rfl, rfl⟩⟩
  case round =>
    obtain ⟨k, hk, rfl, HR⟩ := hrel
    obtain ⟨hbr, hRr, hmv, us9, hX9, hsl⟩ := HR.out
    obtain ⟨t, ht⟩ : ∃ t, t = mvS (l.take k) s := ⟨_, rfl⟩
    rw [← ht] at hsl
    have hl9 : stN.lies 0 wr us9 t := by
      rcases hsl with ⟨rfl, e⟩ | ho
      · rw [e]; exact (HL.out wr hbr).1
      · exact stN.weaken (stN.olies ho) (Nat.zero_le _)
    obtain ⟨a9, n9, c9, b9, m9, d9, e9, k9, f9, q9, rfl, -⟩ := st_flatNl hl9
    have HT : Hid (t = mvS (l.take k) s ∧ mvE (l.take k) s = 0 ∧ Below w.heap.size w wr ∧ Box wr w.heap.size 33 #[.slice a9 n9 c9, .slice b9 m9 d9, .slice e9 k9 f9, .int .i64 q9] ∧ Box wr (w.heap.size + 1) 33 #[.slice none 0 0, .slice none 0 0, .slice none 0 0, .int .i64 0] ∧ stN.lies 0 wr [.slice a9 n9 c9, .slice b9 m9 d9, .slice e9 k9 f9, .int .i64 q9] t) := ⟨ht, hmv, hbr, hX9, hRr, hl9⟩
    clear HR hbr hRr hmv hX9 hsl ht hl9
    by_cases hlt : k < n
    · obtain ⟨x, hx⟩ := get_lt (l := l) (k := k) (by rw [← HN.out]; exact hlt)
      obtain ⟨gb1, go1, gx1, gz1, hix1, p0, p1, p2, hA1, i1, i2, _⟩ := bks_atN (HL.out wr HT.out.2.2.1).2 k x hx
      have hki : (k : Int) < (n : Int) := by omega
      have HTK : Hid (l.take (k + 1) = l.take k ++ [x] ∧ l = l.take (k + 1) ++ l.drop (k + 1)) := ⟨take_snoc hx, (List.take_append_drop _ _).symm⟩
      obtain ⟨xo, xi, xd⟩ := x
      simp only at p0 p1 p2 hA1 i1 i2
      obtain ⟨xl, hxl⟩ : ∃ m, m = xd.length := ⟨_, rfl⟩
      rw [← hxl] at p2 hA1
      obtain ⟨V, hV⟩ : ∃ V, V = wr.alloc (.cells #[.int .i64 xo, .int .i64 xi, .slice gx1 xl gz1] 36) := ⟨_, rfl⟩
      have hbV : Below wr.heap.size wr V := by rw [hV]; exact (Below.refl _ _).alloc (Nat.le_refl _) _
      have hBV : Box V wr.heap.size 36 #[.int .i64 xo, .int .i64 xi, .slice gx1 xl gz1] := by rw [hV]; exact Box.new _ _ _
      have hX1 := HT.out.2.2.2.1.below hbV HT.out.2.2.2.1.lt
      have hX2 := HT.out.2.2.2.2.1.below hbV HT.out.2.2.2.2.1.lt
      have hw1 := HT.out.2.2.2.1.lt
      have hw2 := HT.out.2.2.2.2.1.lt
      obtain ⟨pe, hpe⟩ : ∃ z, z = ptE t (xo, xi, xd) := ⟨_, rfl⟩
      have HC := putx_any 0 0 [.slice a9 n9 c9, .slice b9 m9 d9, .slice e9 k9 f9, .int .i64 q9] t [.int .i64 xo, .int .i64 xi, .slice gx1 xl gz1] (xo, xi, xd) V (stN.below HT.out.2.2.2.2.2 hbV) (bkN.below (bk_mk (p := (xo, xi, xd)) hA1 i1 i2) hbV)
      rw [← hpe] at HC
      have HPE : Hid (pe = ptE t (xo, xi, xd)) := hpe
      have HVX : Hid (Box V w.heap.size 33 #[.slice a9 n9 c9, .slice b9 m9 d9, .slice e9 k9 f9, .int .i64 q9] ∧ Box V (w.heap.size + 1) 33 #[.slice none 0 0, .slice none 0 0, .slice none 0 0, .int .i64 0] ∧ Below wr.heap.size wr V ∧ w.heap.size + 2 ≤ V.heap.size) := ⟨hX1, hX2, hbV, by have := hbV.size; omega⟩
      clear hx hA1 i1 i2 hxl hX2 hw1 hw2 hpe hbV
      go_upto_region 7 with fail
      rw [← hV]
      clear hV p0 p1 p2
      obtain ⟨x0, x1, x2, x3, -⟩ := hX1.four
      obtain ⟨v0, v1, v2, -⟩ := hBV.three
      clear hX1 hBV
      go_wp2_with fail
      clear x0 x1 x2 x3 v0 v1 v2
      refine HC.mono ?_
      rintro e8 w8 ⟨⟨us8, rfl, ho8⟩, hb8⟩
      obtain ⟨a8, n8, c8, b8, m8, d8, e8, k8, f8, q8, rfl⟩ := st_fl ho8
      have hY1 := HVX.out.1.below hb8 HVX.out.1.lt
      have hY2 := HVX.out.2.1.below hb8 HVX.out.2.1.lt
      obtain ⟨z0, z1, z2, z3, j0, j1, j2, j3⟩ := hY1.four
      obtain ⟨X, hX⟩ : ∃ X, X = (((w8.setCell ⟨w.heap.size, 0, none⟩ (.slice a8 n8 c8)).setCell ⟨w.heap.size, 1, none⟩ (.slice b8 m8 d8)).setCell ⟨w.heap.size, 2, none⟩ (.slice e8 k8 f8)).setCell ⟨w.heap.size, 3, none⟩ (.int .i64 q8) := ⟨_, rfl⟩
      have hbX : Below w.heap.size w X := by rw [hX]; exact below_set4 (below_any (below_any HT.out.2.2.1 HVX.out.2.2.1) hb8) (Nat.le_refl _) _ _ _ _
      have hZ1 : Box X w.heap.size 33 #[.slice a8 n8 c8, .slice b8 m8 d8, .slice e8 k8 f8, .int .i64 q8] := by rw [hX]; exact (((hY1.set 0 _).set 1 _).set 2 _).set 3 _
      have hZ2 : Box X (w.heap.size + 1) 33 #[.slice none 0 0, .slice none 0 0, .slice none 0 0, .int .i64 0] := by rw [hX]; exact (((hY2.other (by omega)).other (by omega)).other (by omega)).other (by omega)
      have hoX : stN.owns w.heap.size X [.slice a8 n8 c8, .slice b8 m8 d8, .slice e8 k8 f8, .int .i64 q8] (ptS t (xo, xi, xd)) := by rw [hX]; exact own_set4 stN (by decide) (stN.oweaken ho8 (by have := HVX.out.2.2.2; omega)) hY1 _ _ _ _
      have HXX : Hid (Below w.heap.size w X ∧ Box X w.heap.size 33 #[.slice a8 n8 c8, .slice b8 m8 d8, .slice e8 k8 f8, .int .i64 q8] ∧ Box X (w.heap.size + 1) 33 #[.slice none 0 0, .slice none 0 0, .slice none 0 0, .int .i64 0] ∧ stN.owns w.heap.size X [.slice a8 n8 c8, .slice b8 m8 d8, .slice e8 k8 f8, .int .i64 q8] (ptS t (xo, xi, xd))) := ⟨hbX, hZ1, hZ2, hoX⟩
      go_upto_region 8 with fail
      rw [← hX]
      clear hX HC ho8 hb8 hY1 hY2 z0 z1 z2 z3 j0 j1 j2 j3 hbX hZ1 hZ2 hoX
      by_cases hp0 : pe = 0
      · subst hp0
        have hmvs := mv_snoc (b := (xo, xi, xd)) HT.out.2.1
        rw [← HTK.out.1, ← HT.out.1] at hmvs
        have HI : Hid (Below w.heap.size w X ∧ Box X (w.heap.size + 1) 33 #[.slice none 0 0, .slice none 0 0, .slice none 0 0, .int .i64 0] ∧ mvE (l.take (k + 1)) s = 0 ∧ ∃ us9 : List Value, Box X w.heap.size 33 us9.toArray ∧ (((us9 : List Value) = [.slice a0 n0 c0, .slice b0 m0 d0, .slice e0 k0 f0, .int .i64 q0] ∧ (mvS (l.take (k + 1)) s) = s) ∨ stN.owns w.heap.size X us9 (mvS (l.take (k + 1)) s))) := ⟨HXX.out.1, HXX.out.2.2.1, hmvs.1.trans HPE.out.symm, [.slice a8 n8 c8, .slice b8 m8 d8, .slice e8 k8 f8, .int .i64 q8], HXX.out.2.1, .inr (by rw [hmvs.2 HPE.out.symm]; exact HXX.out.2.2.2)⟩
        clear hmvs
        go_wp2
        go_roundw
        case rel => exact ⟨k + 1, by omega, by go_num, HI.out⟩
        case measure => simp [intOf]; omega
      · have hpb : (pe == 0) = false := by simpa using hp0
        have hR := HXX.out.2.2.1
        obtain ⟨y0, y1, y2, y3, j0, j1, j2, j3⟩ := hR.four
        have hst : mvE l s = pe := by
          rw [HTK.out.2]
          refine mv_stop ?_ hp0
          rw [HTK.out.1, (mv_snoc HT.out.2.1).1, ← HT.out.1]
          exact HPE.out.symm
        have HE : Hid (post (.returned (.tuple #[.agg #[.slice none 0 0, .slice none 0 0, .slice none 0 0, .int .i64 0], .int .i64 pe])) ((((X.setCell ⟨(w.heap.size + 1), 0, none⟩ (.slice none 0 0)).setCell ⟨(w.heap.size + 1), 1, none⟩ (.slice none 0 0)).setCell ⟨(w.heap.size + 1), 2, none⟩ (.slice none 0 0)).setCell ⟨(w.heap.size + 1), 3, none⟩ (.int .i64 0))) := HPo.out [.slice none 0 0, .slice none 0 0, .slice none 0 0, .int .i64 0] pe _ (by unfold movE; rw [if_neg HNE.out, hst, if_neg hp0]) (.inr (by unfold movS; rw [if_neg HNE.out, hst, if_neg hp0]; exact s0_owns _ _)) (below_set4 HXX.out.1 (by omega) _ _ _ _)
        clear hR hst
        go_wp2
        refine bodyPost_ret (v := .tuple #[.agg #[.slice none 0 0, .slice none 0 0, .slice none 0 0, .int .i64 0], .int .i64 pe]) (by simp [results, Try.results69, go_sem, *]) rfl HE.out
    · obtain rfl : k = n := by omega
      have htl : t = mvS l s ∧ mvE l s = 0 := by
        have := HT.out.1
        have h2 := HT.out.2.1
        rw [HN.out, List.take_length] at this h2
        exact ⟨this, h2⟩
      have HTL : Hid (t = mvS l s ∧ mvE l s = 0) := htl
      obtain ⟨se, hse⟩ : ∃ z, z = sE t := ⟨_, rfl⟩
      obtain ⟨sp, hsp⟩ : ∃ z, z = sP t := ⟨_, rfl⟩
      have HC := seal_any 0 [.slice a9 n9 c9, .slice b9 m9 d9, .slice e9 k9 f9, .int .i64 q9] t wr HT.out.2.2.2.2.2
      rw [← hse, ← hsp] at HC
      have HSE : Hid (se = sE t) := hse
      obtain ⟨x0, x1, x2, x3, -⟩ := HT.out.2.2.2.1.four
      clear hse hsp htl
      go_wp2_with fail
      clear x0 x1 x2 x3
      refine HC.mono ?_
      rintro e8 w8 ⟨⟨us8, rfl, ho8⟩, hb8⟩
      obtain ⟨a8, n8, c8, b8, m8, d8, e8, k8, f8, q8, rfl⟩ := st_fl ho8
      have hY1 := HT.out.2.2.2.1.below hb8 HT.out.2.2.2.1.lt
      have hY2 := HT.out.2.2.2.2.1.below hb8 HT.out.2.2.2.2.1.lt
      have hws := HT.out.2.2.1.size
      obtain ⟨z0, z1, z2, z3, j0, j1, j2, j3⟩ := hY1.four
      obtain ⟨X, hX⟩ : ∃ X, X = (((w8.setCell ⟨w.heap.size, 0, none⟩ (.slice a8 n8 c8)).setCell ⟨w.heap.size, 1, none⟩ (.slice b8 m8 d8)).setCell ⟨w.heap.size, 2, none⟩ (.slice e8 k8 f8)).setCell ⟨w.heap.size, 3, none⟩ (.int .i64 q8) := ⟨_, rfl⟩
      have hbX : Below w.heap.size w X := by rw [hX]; exact below_set4 (below_any HT.out.2.2.1 hb8) (Nat.le_refl _) _ _ _ _
      have hZ1 : Box X w.heap.size 33 #[.slice a8 n8 c8, .slice b8 m8 d8, .slice e8 k8 f8, .int .i64 q8] := by rw [hX]; exact (((hY1.set 0 _).set 1 _).set 2 _).set 3 _
      have hZ2 : Box X (w.heap.size + 1) 33 #[.slice none 0 0, .slice none 0 0, .slice none 0 0, .int .i64 0] := by rw [hX]; exact (((hY2.other (by omega)).other (by omega)).other (by omega)).other (by omega)
      have hoX : stN.owns w.heap.size X [.slice a8 n8 c8, .slice b8 m8 d8, .slice e8 k8 f8, .int .i64 q8] (sS t) := by rw [hX]; exact own_set4 stN (by decide) (stN.oweaken ho8 hws) hY1 _ _ _ _
      have HE : Hid (post (.returned (.tuple #[.agg #[.slice a8 n8 c8, .slice b8 m8 d8, .slice e8 k8 f8, .int .i64 q8], .int .i64 se])) ((((X.setCell ⟨(w.heap.size + 1), 0, none⟩ (.slice a8 n8 c8)).setCell ⟨(w.heap.size + 1), 1, none⟩ (.slice b8 m8 d8)).setCell ⟨(w.heap.size + 1), 2, none⟩ (.slice e8 k8 f8)).setCell ⟨(w.heap.size + 1), 3, none⟩ (.int .i64 q8))) := HPo.out [.slice a8 n8 c8, .slice b8 m8 d8, .slice e8 k8 f8, .int .i64 q8] se _ (by unfold movE; rw [if_neg HNE.out, if_pos HTL.out.2, ← HTL.out.1]; exact HSE.out) (.inr (by unfold movS; rw [if_neg HNE.out, if_pos HTL.out.2, ← HTL.out.1]; exact own_set4 stN (by decide) hoX hZ2 _ _ _ _)) (below_set4 hbX (by omega) _ _ _ _)
      have HZZ : Hid (Box X w.heap.size 33 #[.slice a8 n8 c8, .slice b8 m8 d8, .slice e8 k8 f8, .int .i64 q8] ∧ Box X (w.heap.size + 1) 33 #[.slice none 0 0, .slice none 0 0, .slice none 0 0, .int .i64 0]) := ⟨hZ1, hZ2⟩
      go_upto_region 12 with fail
      rw [← hX]
      clear hX HC ho8 hb8 hY1 hY2 z0 z1 z2 z3 j0 j1 j2 j3 hbX hZ1 hZ2 hoX hws
      obtain ⟨x0, x1, x2, x3, -⟩ := HZZ.out.1.four
      obtain ⟨y0, y1, y2, y3, j0, j1, j2, j3⟩ := HZZ.out.2.four
      go_wp2
      refine bodyPost_ret (v := .tuple #[.agg #[.slice a8 n8 c8, .slice b8 m8 d8, .slice e8 k8 f8, .int .i64 q8], .int .i64 se]) (by simp [results, Try.results69, go_sem, *]) rfl HE.out

end Go.Proofs.Ytkpckadicjdieaa

/-
  Clean, the program: for every store and record.
-/
namespace Go.Proofs.Ytkpckadicjdieaa
open Go.ChangeShapes Go.WideShapes Go.ChangeAt Go.RowKit
set_option linter.unusedVariables false

set_option maxRecDepth 100000 in
set_option maxHeartbeats 8000000 in
theorem clean_any (n0 : Nat) (us : List Value) (s : St) (k q : Int) (w : World) (h : stN.lies n0 w us s) :
    Calls Try.prog 32 #[.agg us.toArray, .agg #[.int .i64 k, .int .i64 q]] w (TellsS (clE s k q) (clS s k q) w) := by
  obtain ⟨a0, n0, c0, b0, m0, d0, e0, k0, f0, q0, rfl, -, -, -, -⟩ := st_flatNl h
  obtain ⟨post, hpost⟩ : ∃ post : Ending → World → Prop, post = TellsS (clE s k q) (clS s k q) w := ⟨_, rfl⟩
  have HPo : Hid (∀ us' z t w', z = clE s k q → t = clS s k q → stN.owns w.heap.size w' us' t → Below w.heap.size w w' → post (.returned (.tuple #[.agg us'.toArray, .int .i64 z])) w') := fun us' z t w' e1 e2 e3 e4 => by
    rw [hpost, e1]
    rw [e2] at e3
    exact ⟨⟨us', rfl, e3⟩, e4⟩
  rw [← hpost]
  clear hpost
  obtain ⟨W, hW⟩ : ∃ W, W = ((w.alloc (.cells #[.slice a0 n0 c0, .slice b0 m0 d0, .slice e0 k0 f0, .int .i64 q0] 33)).alloc (.cells #[.int .i64 k, .int .i64 q] 74)).alloc (.cells #[.slice none 0 0, .slice none 0 0, .slice none 0 0, .int .i64 0] 33) := ⟨_, rfl⟩
  have HB : Hid (Below w.heap.size w W) := by rw [hW]; exact (((Below.refl _ w).alloc (Nat.le_refl _) _).alloc (by simp) _).alloc (by simp; omega) _
  have HX : Hid (Box W w.heap.size 33 #[.slice a0 n0 c0, .slice b0 m0 d0, .slice e0 k0 f0, .int .i64 q0] ∧ Box W (w.heap.size + 1) 74 #[.int .i64 k, .int .i64 q] ∧ Box W (w.heap.size + 2) 33 #[.slice none 0 0, .slice none 0 0, .slice none 0 0, .int .i64 0]) := by
    rw [hW]
    refine ⟨((Box.new _ _ _).alloc _).alloc _, ?_, ?_⟩
    · have := Box.new (w.alloc (.cells #[.slice a0 n0 c0, .slice b0 m0 d0, .slice e0 k0 f0, .int .i64 q0] 33)) 74 #[.int .i64 k, .int .i64 q]
      rw [World.size_alloc] at this
      exact this.alloc _
    · have := Box.new ((w.alloc (.cells #[.slice a0 n0 c0, .slice b0 m0 d0, .slice e0 k0 f0, .int .i64 q0] 33)).alloc (.cells #[.int .i64 k, .int .i64 q] 74)) 33 #[.slice none 0 0, .slice none 0 0, .slice none 0 0, .int .i64 0]
      rwa [World.size_alloc, World.size_alloc] at this
  have HL : Hid (∀ V, Below w.heap.size w V → stN.lies 0 V [.slice a0 n0 c0, .slice b0 m0 d0, .slice e0 k0 f0, .int .i64 q0] s) := fun V hV => stN.below (stN.weaken h (Nat.zero_le _)) hV
  clear h
  obtain ⟨ue, hue⟩ : ∃ z, z = uE s k := ⟨_, rfl⟩
  have HC := liveL_any 0 [.slice a0 n0 c0, .slice b0 m0 d0, .slice e0 k0 f0, .int .i64 q0] s k W (HL.out W HB.out)
  rw [← hue] at HC
  have HUE : Hid (ue = uE s k) := hue
  clear hue
  go_enter Try.func32, Try.ntmps32
  go_upto_region 1 with fail
  rw [← hW]
  clear hW
  obtain ⟨x0, x1, x2, x3, -⟩ := HX.out.1.four
  obtain ⟨r0, r1, -⟩ := HX.out.2.1.two
  go_wp2_with fail
  clear x0 x1 x2 x3 r0 r1
  refine HC.mono ?_
  rintro e1 w1 ⟨⟨v1, rfl, ho1⟩, hb1⟩
  have HB1 : Hid (Below w.heap.size w w1 ∧ w.heap.size + 3 ≤ w1.heap.size) := ⟨below_any HB.out hb1, by have := hb1.size; have := HX.out.2.2.lt; omega⟩
  have HX1 : Hid (Box w1 w.heap.size 33 #[.slice a0 n0 c0, .slice b0 m0 d0, .slice e0 k0 f0, .int .i64 q0] ∧ Box w1 (w.heap.size + 1) 74 #[.int .i64 k, .int .i64 q] ∧ Box w1 (w.heap.size + 2) 33 #[.slice none 0 0, .slice none 0 0, .slice none 0 0, .int .i64 0]) := ⟨HX.out.1.below hb1 HX.out.1.lt, HX.out.2.1.below hb1 HX.out.2.1.lt, HX.out.2.2.below hb1 HX.out.2.2.lt⟩
  have HLV : Hid (bksN.lies 0 w1 [v1] (lL s k)) := bksN.weaken (bksN.olies ho1) (Nat.zero_le _)
  clear HC ho1 hb1
  by_cases hu : ue = 0
  case neg =>
    have hub : (ue == 0) = false := by simpa using hu
    have hun : clE s k q = ue := by unfold clE; rw [if_neg (by rw [← HUE.out]; exact hu)]; exact HUE.out.symm
    have hR := HX1.out.2.2
    obtain ⟨y0, y1, y2, y3, j0, j1, j2, j3⟩ := hR.four
    have HE : Hid (post (.returned (.tuple #[.agg #[.slice none 0 0, .slice none 0 0, .slice none 0 0, .int .i64 0], .int .i64 ue])) ((((w1.setCell ⟨(w.heap.size + 2), 0, none⟩ (.slice none 0 0)).setCell ⟨(w.heap.size + 2), 1, none⟩ (.slice none 0 0)).setCell ⟨(w.heap.size + 2), 2, none⟩ (.slice none 0 0)).setCell ⟨(w.heap.size + 2), 3, none⟩ (.int .i64 0))) := HPo.out [.slice none 0 0, .slice none 0 0, .slice none 0 0, .int .i64 0] ue s0 _ (hun.symm) ((clS_no (by rw [hun]; exact hu)).symm) (s0_owns _ _) (below_set4 HB1.out.1 (by omega) _ _ _ _)
    clear hR
    go_wp2
    refine bodyPost_ret (v := .tuple #[.agg #[.slice none 0 0, .slice none 0 0, .slice none 0 0, .int .i64 0], .int .i64 ue]) (by simp [results, Try.results32, go_sem, *]) rfl HE.out
  subst hu
  obtain ⟨hok, i, p, hki, hil, hp, hsl, hfr⟩ := uE_zero HUE.out.symm
  subst hki
  obtain ⟨gb, go', ga, gc, hix, hc0, hc1, hSG, _⟩ := sgs_atN (st_seg (HL.out w1 HB1.out.1)).1 i p hp
  have HP : Hid (Ok s ∧ s.1[i]? = some p ∧ slotOf s (i : Int) = p) := ⟨hok, hp, hsl⟩
  have HS : Hid (∀ V, Below w1.heap.size w1 V → V.cell? ⟨w.heap.size, 0, none⟩ = some (.slice a0 n0 c0) ∧ V.cell? ⟨w.heap.size + 1, 0, none⟩ = some (.int .i64 i) ∧ V.cell? ⟨w.heap.size + 1, 1, none⟩ = some (.int .i64 q) ∧ V.cell? ⟨gb, go', none⟩ = some (.int .i64 p.1)) := fun V hV => ⟨((HX1.out.1.below hV HX1.out.1.lt).four).1, ((HX1.out.2.1.below hV HX1.out.2.1.lt).two).1, ((HX1.out.2.1.below hV HX1.out.2.1.lt).two).2.1, cell_below hV hc0⟩
  clear hok hil hp hsl hfr hc0 hc1 hSG
  obtain ⟨pq, hpq⟩ : ∃ z, z = p.1 := ⟨_, rfl⟩
  rw [← hpq] at HS
  have HPQ : Hid (pq = p.1) := hpq
  clear hpq
  go_upto_region 4 with fail
  refine AnyBut.begin (fun V => V.cell? ⟨w.heap.size, 0, none⟩ = some (.slice a0 n0 c0) ∧ V.cell? ⟨w.heap.size + 1, 0, none⟩ = some (.int .i64 i) ∧ V.cell? ⟨w.heap.size + 1, 1, none⟩ = some (.int .i64 q) ∧ V.cell? ⟨gb, go', none⟩ = some (.int .i64 pq)) 1000 (by kernel_rfl) ?_
  have hSS := HS.out w1.drew (Below.refl _ w1).drew
  have HZ : Hid (∃ z, z = w1.drew) := ⟨_, rfl⟩
  refine tx 0 19 hSS ?_
  simp only [ua, ub, uc, ud]
  refine tx 1 20 hSS ?_
  simp only [ua, ub, uc, ud]
  refine tx 2 21 hSS ?_
  simp only [ua, ub, uc, ud]
  refine tx 3 22 hSS ?_
  simp only [ua, ub, uc, ud]
  refine tx 4 23 hSS ?_
  simp only [ua, ub, uc, ud]
  refine tx 5 24 hSS ?_
  simp only [ua, ub, uc, ud]
  refine tx 6 25 hSS ?_
  simp only [ua, ub, uc, ud]
  refine tx 7 26 hSS ?_
  simp only [ua, ub, uc, ud]
  refine tx 8 27 hSS ?_
  simp only [ua, ub, uc, ud]
  obtain ⟨D, hD⟩ : ∃ D, D = w1.drew := ⟨_, rfl⟩
  have hbD : Below w1.heap.size w1 D := by rw [hD]; exact (Below.refl _ w1).drew
  have HBD : Hid (Below w.heap.size w D ∧ w.heap.size + 3 ≤ D.heap.size) := ⟨below_any HB1.out.1 hbD, by have := hbD.size; have := HB1.out.2; omega⟩
  have HXD : Hid (Box D w.heap.size 33 #[.slice a0 n0 c0, .slice b0 m0 d0, .slice e0 k0 f0, .int .i64 q0] ∧ Box D (w.heap.size + 1) 74 #[.int .i64 (i : Int), .int .i64 q] ∧ Box D (w.heap.size + 2) 33 #[.slice none 0 0, .slice none 0 0, .slice none 0 0, .int .i64 0]) := ⟨HX1.out.1.below hbD HX1.out.1.lt, HX1.out.2.1.below hbD HX1.out.2.1.lt, HX1.out.2.2.below hbD HX1.out.2.2.lt⟩
  have HLD : Hid (bksN.lies 0 D [v1] (lL s (i : Int))) := bksN.below HLV.out hbD
  rw [← hD] at hSS ⊢
  clear hD hbD HS HZ HX1 HB1 HLV
  by_cases hpe : pq = q
  case neg =>
    have hpb : (pq == q) = false := by simpa using hpe
    have hpn : (pq != q) = true := by simpa using hpe
    refine tx 9 28 hSS ?_
    simp only [ua, ub, uc, ud]
    refine AnyBut.done (by kernel_rfl) ?_
    clear hSS hix
    have hun : clE s (i : Int) q = 81 := by unfold clE; rw [if_pos HUE.out.symm, HP.out.2.2, if_neg (by rw [← HPQ.out]; exact hpe)]
    have hR := HXD.out.2.2
    obtain ⟨y0, y1, y2, y3, j0, j1, j2, j3⟩ := hR.four
    have HE : Hid (post (.returned (.tuple #[.agg #[.slice none 0 0, .slice none 0 0, .slice none 0 0, .int .i64 0], .int .i64 81])) ((((D.setCell ⟨(w.heap.size + 2), 0, none⟩ (.slice none 0 0)).setCell ⟨(w.heap.size + 2), 1, none⟩ (.slice none 0 0)).setCell ⟨(w.heap.size + 2), 2, none⟩ (.slice none 0 0)).setCell ⟨(w.heap.size + 2), 3, none⟩ (.int .i64 0))) := HPo.out [.slice none 0 0, .slice none 0 0, .slice none 0 0, .int .i64 0] 81 s0 _ (hun.symm) ((clS_no (by rw [hun]; decide)).symm) (s0_owns _ _) (below_set4 HBD.out.1 (by omega) _ _ _ _)
    clear hR
    go_wp2
    refine bodyPost_ret (v := .tuple #[.agg #[.slice none 0 0, .slice none 0 0, .slice none 0 0, .int .i64 0], .int .i64 81]) (by simp [results, Try.results32, go_sem, *]) rfl HE.out
  subst hpe
  have hpn : (pq != pq) = false := by simp
  refine tx 9 28 hSS ?_
  simp only [ua, ub, uc, ud]
  refine AnyBut.done (by kernel_rfl) ?_
  clear hSS hix hpn
  obtain ⟨me, hme⟩ : ∃ z, z = movE (lL s (i : Int)) s := ⟨_, rfl⟩
  have HC := moved_any 0 0 [.slice a0 n0 c0, .slice b0 m0 d0, .slice e0 k0 f0, .int .i64 q0] s v1 (lL s (i : Int)) D (HL.out D HBD.out.1) HLD.out
  rw [← hme] at HC
  have HCE : Hid (me = movE (lL s (i : Int)) s ∧ clE s (i : Int) pq = me) := ⟨hme, by unfold clE; rw [if_pos HUE.out.symm, HP.out.2.2, if_pos HPQ.out.symm]; exact hme.symm⟩
  obtain ⟨x0, x1, x2, x3, -⟩ := HXD.out.1.four
  clear hme
  go_wp2_with fail
  clear x0 x1 x2 x3
  refine HC.mono ?_
  rintro e8 w8 ⟨⟨us8, rfl, hsl8⟩, hb8⟩
  have hl8 : ∀ V, Below w.heap.size w V → (∀ u1 u2 u3 u4, V = ((((w8.setCell ⟨w.heap.size, 0, none⟩ u1).setCell ⟨w.heap.size, 1, none⟩ u2).setCell ⟨w.heap.size, 2, none⟩ u3).setCell ⟨w.heap.size, 3, none⟩ u4) → stN.lies 0 V us8 (movS (lL s (i : Int)) s)) := fun V hV u1 u2 u3 u4 e => by
    rcases hsl8 with ⟨e1, e2⟩ | ho
    · rw [e1, e2]; exact HL.out V hV
    · rw [e]; exact stN.weaken (stN.olies (own_set4 stN (by decide) ho (HXD.out.1.below hb8 HXD.out.1.lt) _ _ _ _)) (Nat.zero_le _)
  obtain ⟨a8, n8, c8, b8, m8, d8, e8, k8, f8, q8, hus8⟩ : ∃ a n1 c b n2 d e n3 f q, us8 = [.slice a n1 c, .slice b n2 d, .slice e n3 f, .int .i64 q] := by
    rcases hsl8 with ⟨e1, _⟩ | ho
    · exact ⟨_, _, _, _, _, _, _, _, _, _, e1⟩
    · exact st_fl ho
  subst hus8
  have hY1 := HXD.out.1.below hb8 HXD.out.1.lt
  have hY2 := HXD.out.2.1.below hb8 HXD.out.2.1.lt
  have hY3 := HXD.out.2.2.below hb8 HXD.out.2.2.lt
  obtain ⟨z0, z1, z2, z3, j0, j1, j2, j3⟩ := hY1.four
  obtain ⟨X, hX⟩ : ∃ X, X = (((w8.setCell ⟨w.heap.size, 0, none⟩ (.slice a8 n8 c8)).setCell ⟨w.heap.size, 1, none⟩ (.slice b8 m8 d8)).setCell ⟨w.heap.size, 2, none⟩ (.slice e8 k8 f8)).setCell ⟨w.heap.size, 3, none⟩ (.int .i64 q8) := ⟨_, rfl⟩
  have hbX : Below w.heap.size w X := by rw [hX]; exact below_set4 (below_any HBD.out.1 hb8) (Nat.le_refl _) _ _ _ _
  have HBX : Hid (Below w.heap.size w X) := hbX
  have HXX : Hid (Box X w.heap.size 33 #[.slice a8 n8 c8, .slice b8 m8 d8, .slice e8 k8 f8, .int .i64 q8] ∧ Box X (w.heap.size + 1) 74 #[.int .i64 (i : Int), .int .i64 pq] ∧ Box X (w.heap.size + 2) 33 #[.slice none 0 0, .slice none 0 0, .slice none 0 0, .int .i64 0]) := by
    rw [hX]
    exact ⟨(((hY1.set 0 _).set 1 _).set 2 _).set 3 _, (((hY2.other (by omega)).other (by omega)).other (by omega)).other (by omega), (((hY3.other (by omega)).other (by omega)).other (by omega)).other (by omega)⟩
  have HLX : Hid (stN.lies 0 X [.slice a8 n8 c8, .slice b8 m8 d8, .slice e8 k8 f8, .int .i64 q8] (movS (lL s (i : Int)) s)) := hl8 X hbX _ _ _ _ hX
  go_upto_region 7 with fail
  rw [← hX]
  clear hX HC hsl8 hb8 hl8 hbX hY1 hY2 hY3 z0 z1 z2 z3 j0 j1 j2 j3
  by_cases hm : me = 0
  case neg =>
    have hmb : (me == 0) = false := by simpa using hm
    have hR := HXX.out.2.2
    obtain ⟨y0, y1, y2, y3, j0, j1, j2, j3⟩ := hR.four
    have HE : Hid (post (.returned (.tuple #[.agg #[.slice none 0 0, .slice none 0 0, .slice none 0 0, .int .i64 0], .int .i64 me])) ((((X.setCell ⟨(w.heap.size + 2), 0, none⟩ (.slice none 0 0)).setCell ⟨(w.heap.size + 2), 1, none⟩ (.slice none 0 0)).setCell ⟨(w.heap.size + 2), 2, none⟩ (.slice none 0 0)).setCell ⟨(w.heap.size + 2), 3, none⟩ (.int .i64 0))) := HPo.out [.slice none 0 0, .slice none 0 0, .slice none 0 0, .int .i64 0] me s0 _ (HCE.out.2.symm) ((clS_no (by rw [HCE.out.2]; exact hm)).symm) (s0_owns _ _) (below_set4 HBX.out (by omega) _ _ _ _)
    clear hR
    go_wp2
    refine bodyPost_ret (v := .tuple #[.agg #[.slice none 0 0, .slice none 0 0, .slice none 0 0, .int .i64 0], .int .i64 me]) (by simp [results, Try.results32, go_sem, *]) rfl HE.out
  subst hm
  have hcf := cl_free HCE.out.2
  have HC := free_any 0 [.slice a8 n8 c8, .slice b8 m8 d8, .slice e8 k8 f8, .int .i64 q8] (movS (lL s (i : Int)) s) i X HLX.out
  rw [hcf.1, hcf.2] at HC
  obtain ⟨x0, x1, x2, x3, -⟩ := HXX.out.1.four
  obtain ⟨r0, r1, -⟩ := HXX.out.2.1.two
  clear hcf
  go_wp2_with fail
  clear x0 x1 x2 x3 r0 r1
  refine HC.mono ?_
  rintro e7 w7 ⟨⟨us7, rfl, ho7⟩, hb7⟩
  obtain ⟨a7, n7, c7, b7, m7, d7, e7, k7, f7, q7, rfl⟩ := st_fl ho7
  have hR := HXX.out.2.2.below hb7 HXX.out.2.2.lt
  obtain ⟨y0, y1, y2, y3, j0, j1, j2, j3⟩ := hR.four
  have HE : Hid (post (.returned (.tuple #[.agg #[.slice a7 n7 c7, .slice b7 m7 d7, .slice e7 k7 f7, .int .i64 q7], .int .i64 0])) ((((w7.setCell ⟨(w.heap.size + 2), 0, none⟩ (.slice a7 n7 c7)).setCell ⟨(w.heap.size + 2), 1, none⟩ (.slice b7 m7 d7)).setCell ⟨(w.heap.size + 2), 2, none⟩ (.slice e7 k7 f7)).setCell ⟨(w.heap.size + 2), 3, none⟩ (.int .i64 q7))) := HPo.out [.slice a7 n7 c7, .slice b7 m7 d7, .slice e7 k7 f7, .int .i64 q7] 0 (clS s (i : Int) pq) _ HCE.out.2.symm rfl (own_set4 stN (by decide) (stN.oweaken ho7 HBX.out.size) hR _ _ _ _) (below_set4 (below_any HBX.out hb7) (by omega) _ _ _ _)
  clear HC ho7 hb7 hR
  go_wp2
  refine bodyPost_ret (v := .tuple #[.agg #[.slice a7 n7 c7, .slice b7 m7 d7, .slice e7 k7 f7, .int .i64 q7], .int .i64 0]) (by simp [results, Try.results32, go_sem, *]) rfl HE.out

end Go.Proofs.Ytkpckadicjdieaa

/-
  The document's store in memory of its own.
-/
namespace Go.Proofs.Ytkpckadicjdieaa
open Go.RowKit

theorem rown_set4 {α : Type} (S : Shape α) (hid : 26 ∉ S.ids) {n B : Nat} {w : World} {us : List Value} {x : α} {cs : Array Value} (h : S.owns n w us x) (hB : Box w B 26 cs) (u v y z : Value) : S.owns n ((((w.setCell ⟨B, 0, none⟩ u).setCell ⟨B, 1, none⟩ v).setCell ⟨B, 2, none⟩ y).setCell ⟨B, 3, none⟩ z) us x :=
  S.ogrown (S.ogrown (S.ogrown (S.ogrown h (grown_set w B 0 u) (hB.clear hid)) (grown_set _ B 1 v) ((hB.set 0 u).clear hid)) (grown_set _ B 2 y) (((hB.set 0 u).set 1 v).clear hid)) (grown_set _ B 3 z) ((((hB.set 0 u).set 1 v).set 2 y).clear hid)
/-- The document's store in memory of its own, its open blocks ahead of all else. -/
def SepR (n : Nat) (w : World) (us : List Value) (s : St) : Prop := ∃ v1 v2 v3 B, us = [v1, v2, v3, .int .i64 s.2.2.2] ∧ n ≤ B ∧ B ≤ w.heap.size ∧ sgsR.owns B w [v1] s.1 ∧ boolsS.owns B w [v2] s.2.1 ∧ bksR.owns n w [v3] s.2.2.1 ∧ (∀ g, v3.ownBlock = some g → g < B) ∧ I64 s.2.2.2
theorem SepR.owns {n : Nat} {w : World} {us : List Value} {s : St} (h : SepR n w us s) : stR.owns n w us s := by
  obtain ⟨v1, v2, v3, B, rfl, h1, _, h2, h3, h4, _, h5⟩ := h
  exact st_omkR (sgsR.oweaken h2 h1) (boolsS.oweaken h3 h1) h4 h5

theorem bools_app (n0 : Nat) (v : Value) (l : List Bool) (w : World) (h : boolsS.lies n0 w [v] l) (hs : l.length ≤ 140737488355328) :
    ∃ v' w', (Builtin.append_ #[23, 23] 23 #[.slice none 0 0, v]).run Try.prog w = .ok v' w' ∧ boolsS.owns w.heap.size w' [v'] l ∧ Below w.heap.size w w' := by
  obtain ⟨i0, hi, hz0, hz1, hz2⟩ := info_parts Try.info4
  obtain ⟨v', hv, hC, _⟩ := h
  obtain rfl : v = v' := by simpa using hv
  obtain ⟨hl, h | ⟨x, cap, rfl, hcap, hm, _, hc⟩⟩ := hC
  · obtain ⟨rfl, h0⟩ := h
    obtain rfl := List.eq_nil_of_length_eq_zero h0
    exact ⟨_, w, run_append_owned_none (P := Try.prog) (w := w) w.heap.size 23 23 4 i0 1 Try.underlying23 hi (.slice none 0 0) 0 [] (World.ownsRow_nil _ _ _ _), ⟨_, rfl, World.ownsRow_nil _ _ _ _, fun _ _ => trivial⟩, Below.refl _ _⟩
  · have hone : ∀ u ∈ l.map bL.val, u.oneCell' = true := fun u hu => by
      obtain ⟨y, _, rfl⟩ := List.mem_map.1 hu
      rfl
    obtain ⟨v', w', h1, h2, h3, _⟩ := run_append_own (P := Try.prog) w w.heap.size 23 23 4 i0 (.bool false) 1 1 Try.underlying23 hi hz0 hz1 hz2 rfl (by decide) (.slice none 0 0) 0 [] (World.ownsRow_nil _ _ _ _) x l.length cap (l.map bL.val) (by simp) hc hone (by omega) (by omega) (Nat.le_refl _)
    exact ⟨v', w', h1, ⟨_, rfl, (show w'.ownsRow w.heap.size 4 1 v' l.length (l.map bL.val) by simpa using h2), fun _ _ => trivial⟩, (Below.refl _ _).grown h3 (Nat.le_refl _) (fun _ h => by cases h)⟩

set_option maxRecDepth 100000 in
set_option maxHeartbeats 8000000 in
theorem rownL_any (n0 : Nat) (us : List Value) (s : St) (w : World) (h : stR.lies n0 w us s) (hf : FitsL s) :
    Calls Try.prog 45 #[.agg us.toArray] w fun e w' => (∃ us', e = .returned (.agg us'.toArray) ∧ SepR (w.heap.size + 2) w' us' s) ∧ Below w.heap.size w w' := by
  obtain ⟨a, c, b, d, e, f, rfl, hS, hH, hO, hN, m1, m2, m3⟩ := st_viewR h
  obtain ⟨l, hd, op, nx⟩ := s
  simp only at hS hH hO hN m1 m2 m3 hf ⊢
  obtain ⟨⟨f1, f2⟩, f3, f4, f5⟩ := hf
  simp only at f1 f2 f3 f4 f5
  obtain ⟨post, hpost⟩ : ∃ post : Ending → World → Prop, post = fun e w' => (∃ us', e = .returned (.agg us'.toArray) ∧ SepR (w.heap.size + 2) w' us' (l, hd, op, nx)) ∧ Below w.heap.size w w' := ⟨_, rfl⟩
  have HPo : Hid (∀ us' w', SepR (w.heap.size + 2) w' us' (l, hd, op, nx) → Below w.heap.size w w' → post (.returned (.agg us'.toArray)) w') := fun v' w' h1 h2 => by rw [hpost]; exact ⟨⟨v', rfl, h1⟩, h2⟩
  rw [← hpost]
  clear hpost
  obtain ⟨n, hn⟩ : ∃ n, n = l.length := ⟨_, rfl⟩
  obtain ⟨nh, hnh⟩ : ∃ n, n = hd.length := ⟨_, rfl⟩
  obtain ⟨no, hno⟩ : ∃ n, n = op.length := ⟨_, rfl⟩
  rw [← hn, ← hnh, ← hno]
  have hnb : n * 32 ≤ 140737488351232 := by rw [hn]; exact f1
  obtain ⟨W, hW⟩ : ∃ W, W = (w.alloc (.cells #[.slice a n c, .slice b nh d, .slice e no f, .int .i64 nx] 26)).alloc (.cells #[.slice none 0 0, .slice none 0 0, .slice none 0 0, .int .i64 0] 26) := ⟨_, rfl⟩
  have hbW : Below w.heap.size w W := by rw [hW]; exact ((Below.refl _ w).alloc (Nat.le_refl _) _).alloc (by simp) _
  have hB1 : Box W w.heap.size 26 #[.slice a n c, .slice b nh d, .slice e no f, .int .i64 nx] := by rw [hW]; exact (Box.new _ _ _).alloc _
  have hB2 : Box W (w.heap.size + 1) 26 #[.slice none 0 0, .slice none 0 0, .slice none 0 0, .int .i64 0] := by
    rw [hW]
    have := Box.new (w.alloc (.cells #[.slice a n c, .slice b nh d, .slice e no f, .int .i64 nx] 26)) 26 #[.slice none 0 0, .slice none 0 0, .slice none 0 0, .int .i64 0]
    rwa [World.size_alloc] at this
  have HN : Hid (n = l.length ∧ nh = hd.length ∧ no = op.length) := ⟨hn, hnh, hno⟩
  have HW : Hid (Below w.heap.size w W ∧ W.heap.size = w.heap.size + 2 ∧ ∀ V, Below W.heap.size W V → Box V w.heap.size 26 #[.slice a n c, .slice b nh d, .slice e no f, .int .i64 nx] ∧ Box V (w.heap.size + 1) 26 #[.slice none 0 0, .slice none 0 0, .slice none 0 0, .int .i64 0]) := ⟨hbW, by rw [hW]; simp, fun V hV => ⟨hB1.below hV hB1.lt, hB2.below hV hB2.lt⟩⟩
  have HA : Hid (sgsR.lies n0 w [.slice a n c] l ∧ (∀ p ∈ l, Fits p) ∧ I64 nx ∧ boolsS.lies n0 w [.slice b nh d] hd ∧ nh ≤ 140737488351232) := ⟨by rw [hn]; exact hS, f2, hN, by rw [hnh]; exact hH, by omega⟩
  have HC2 : Hid (∀ V, Below W.heap.size W V → Calls Try.prog 73 #[.slice e no f] V fun e w' => (∃ v', e = .returned v' ∧ bksR.owns V.heap.size w' [v'] op) ∧ Below V.heap.size V w') := fun V hV => rown_any n0 (.slice e no f) op V (bksR.below (by rw [hno]; exact hO) (below_any hbW hV)) ⟨f4, f5⟩
  have HS : Hid (∀ V, Below W.heap.size W V → V.cell? ⟨w.heap.size, 2, none⟩ = some (.slice e no f) ∧ V.cell? ⟨w.heap.size, 3, none⟩ = some (.int .i64 nx)) := fun V hV => by
    have h1 := (hB1.below hV hB1.lt).four
    exact ⟨h1.2.2.1, h1.2.2.2.1⟩
  clear h hS hH hO hN m1 m2 m3 hbW hB1 hB2 hn hnh hno f1 f2 f3 f4 f5
  go_enter Try.func45, Try.ntmps45
  go_upto_region 1 with fail
  rw [← hW]
  clear hW
  go_cut [3] (fun u wx => ∃ dd, u = .pointer (some ⟨dd, 0, none⟩) ∧ Hid (W.heap.size ≤ dd ∧ Below W.heap.size W wx ∧ ∃ a3 c3, Box wx dd 26 #[.slice none 0 0, .slice none 0 0, .slice a3 no c3, .int .i64 nx] ∧ bksR.owns W.heap.size wx [.slice a3 no c3] op))
  case first =>
    rename_i J K1 hJ hMt
    have HREL : Hid (∀ dd a3 c3 (w1 : World), Below W.heap.size W w1 → W.heap.size ≤ dd → Box w1 dd 26 #[.slice none 0 0, .slice none 0 0, .slice none 0 0, .int .i64 0] → bksR.owns W.heap.size w1 [.slice a3 no c3] op → Below W.heap.size W ((((w1.setCell ⟨dd, 0, none⟩ (.slice none 0 0)).setCell ⟨dd, 1, none⟩ (.slice none 0 0)).setCell ⟨dd, 2, none⟩ (.slice a3 no c3)).setCell ⟨dd, 3, none⟩ (.int .i64 nx)) ∧ Hid (W.heap.size ≤ dd ∧ Below W.heap.size W ((((w1.setCell ⟨dd, 0, none⟩ (.slice none 0 0)).setCell ⟨dd, 1, none⟩ (.slice none 0 0)).setCell ⟨dd, 2, none⟩ (.slice a3 no c3)).setCell ⟨dd, 3, none⟩ (.int .i64 nx)) ∧ ∃ a3' c3', Box ((((w1.setCell ⟨dd, 0, none⟩ (.slice none 0 0)).setCell ⟨dd, 1, none⟩ (.slice none 0 0)).setCell ⟨dd, 2, none⟩ (.slice a3 no c3)).setCell ⟨dd, 3, none⟩ (.int .i64 nx)) dd 26 #[.slice none 0 0, .slice none 0 0, .slice a3' no c3', .int .i64 nx] ∧ bksR.owns W.heap.size ((((w1.setCell ⟨dd, 0, none⟩ (.slice none 0 0)).setCell ⟨dd, 1, none⟩ (.slice none 0 0)).setCell ⟨dd, 2, none⟩ (.slice a3 no c3)).setCell ⟨dd, 3, none⟩ (.int .i64 nx)) [.slice a3' no c3'] op)) := fun dd a3 c3 w1 h1 h2 h3 h5 => ⟨below_set4 h1 h2 _ _ _ _, h2, below_set4 h1 h2 _ _ _ _, a3, c3, (((h3.set 0 _).set 1 _).set 2 _).set 3 _, rown_set4 bksR (by decide) h5 h3 _ _ _ _⟩
    refine AnyBut.begin (fun V => V.cell? ⟨w.heap.size, 2, none⟩ = some (.slice e no f) ∧ V.cell? ⟨w.heap.size, 3, none⟩ = some (.int .i64 nx)) 1000 (by kernel_rfl) ?_
    have hSS := HS.out W.drew (Below.refl _ W).drew
    refine tx 0 5 hSS ?_
    simp only [ua, ub, uc, ud]
    refine tx 1 6 hSS ?_
    simp only [ua, ub, uc, ud]
    refine tx 2 7 hSS ?_
    simp only [ua, ub, uc, ud]
    refine tx 3 8 hSS ?_
    simp only [ua, ub, uc, ud]
    clear hSS
    refine AnyBut.two (i := 4) (j := 6) (by kernel_rfl) rfl rfl (fun K hK => ?_) (fun K hK => ?_)
    · go_simp
      refine Calls.mono (HC2.out W.drew (Below.refl _ W).drew) ?_
      rintro e2 w2 ⟨⟨v2, rfl, ho2⟩, hb2⟩
      dsimp only
      have hb2 : Below W.heap.size W w2 := ((Below.refl W.heap.size W).drew).trans (hb2.mono (Nat.le_refl _))
      refine hK.out _ _ (HS.out w2 hb2) ?_
      clear hK
      obtain ⟨a3, c3, _, hv2, -⟩ := Shape.list_own (S := bkR) (ht := Try.underlying24) (hc := cells24) ho2
      obtain rfl : v2 = _ := by simpa using hv2
      rw [← HN.out.2.2] at ho2 ⊢
      have hSS := HS.out w2 hb2
      refine tx 5 10 hSS ?_
      simp only [ua, ub, uc, ud]
      refine AnyBut.step (i := 6) (by kernel_rfl) rfl (fun K hK => ?_)
      go_simp
      refine hK.out _ _ (HS.out _ (hb2.alloc hb2.size _)) ?_
      clear hK
      refine AnyBut.step (i := 7) (by kernel_rfl) rfl (fun K hK => ?_)
      go_simp
      refine hK.out _ _ (HS.out _ (hb2.alloc hb2.size _)) ?_
      clear hK
      refine AnyBut.done (by kernel_rfl) ?_
      refine hMt _ _ (Go.Met.intro (hJ _ _ ?_))
      (repeat (refine Exists.intro ?_ ?_; rotate_left 1))
      refine ⟨?rel1, ?fr1⟩
      case fr1 => rfl
      case rel1 => exact ⟨_, rfl, hb2.size, hb2.alloc hb2.size _, _, _, Box.new _ _ _, bksR.obelow ho2 ((Below.refl _ _).alloc (Nat.le_refl _) _)⟩
    · go_simp
      obtain ⟨Z, hZ⟩ : ∃ Z, Z = (W.alloc (.cells #[.slice none 0 0, .slice none 0 0, .slice none 0 0, .int .i64 0] 26)).drew := ⟨_, rfl⟩
      have hbz : Below W.heap.size W Z := by rw [hZ]; exact ((Below.refl _ W).alloc (Nat.le_refl _) _).drew
      have hBz : Box Z W.heap.size 26 #[.slice none 0 0, .slice none 0 0, .slice none 0 0, .int .i64 0] := by rw [hZ]; exact Box.drew (Box.new _ _ _)
      rw [← hZ]
      refine hK.out _ _ (HS.out Z hbz) ?_
      clear hK hZ
      refine AnyBut.step (i := 4) (by kernel_rfl) rfl (fun K hK => ?_)
      go_simp
      refine Calls.mono (HC2.out Z hbz) ?_
      rintro e2 w2 ⟨⟨v2, rfl, ho2⟩, hb2⟩
      dsimp only
      have hb2o := hb2
      have hb2 : Below W.heap.size W w2 := hbz.trans (hb2.mono hbz.size)
      refine hK.out _ _ (HS.out w2 hb2) ?_
      clear hK
      obtain ⟨a3, c3, _, hv2, -⟩ := Shape.list_own (S := bkR) (ht := Try.underlying24) (hc := cells24) ho2
      obtain rfl : v2 = _ := by simpa using hv2
      rw [← HN.out.2.2] at ho2 ⊢
      have hSS := HS.out w2 hb2
      refine tx 5 10 hSS ?_
      simp only [ua, ub, uc, ud]
      have hBz2 := hBz.below hb2o hBz.lt
      obtain ⟨z0, z1, z2, z3, y0, y1, y2, y3⟩ := hBz2.four
      have HQ : Hid _ := HREL.out W.heap.size a3 c3 w2 hb2 (Nat.le_refl _) hBz2 (bksR.oweaken ho2 hbz.size)
      refine AnyBut.step (i := 7) (by kernel_rfl) rfl (fun K hK => ?_)
      go_simp
      refine hK.out _ _ (HS.out _ HQ.out.1) ?_
      clear hK
      refine AnyBut.done (by kernel_rfl) ?_
      refine hMt _ _ (Go.Met.intro (hJ _ _ ?_))
      (repeat (refine Exists.intro ?_ ?_; rotate_left 1))
      refine ⟨?rel2, ?fr2⟩
      case fr2 => rfl
      case rel2 => exact ⟨_, rfl, HQ.out.2⟩
  case rest =>
    obtain ⟨dd, rfl, HXX⟩ := hcut
    obtain ⟨wx, hwx⟩ : ∃ U, U = wc := ⟨_, rfl⟩
    rw [← hwx] at HXX ⊢
    clear hwx
    obtain ⟨hdd, hbx, a3, c3, hBx, ho3⟩ := HXX.out
    have HDD : Hid (W.heap.size ≤ dd ∧ dd < wx.heap.size) := ⟨hdd, hBx.lt⟩
    have HOB : Hid (∀ g, (Value.slice a3 no c3).ownBlock = some g → g < wx.heap.size) := fun g hg => by
      obtain ⟨v9, vss, hv9, hown, _⟩ := ho3
      obtain rfl : Value.slice a3 no c3 = v9 := by simpa using hv9
      exact (hown.lt g hg).2
    have HXB : Hid (Below W.heap.size W wx ∧ Box wx dd 26 #[.slice none 0 0, .slice none 0 0, .slice a3 no c3, .int .i64 nx] ∧ bksR.owns W.heap.size wx [.slice a3 no c3] op) := ⟨hbx, hBx, ho3⟩
    obtain ⟨t0, t1, t2, t3, u0, u1, u2, u3⟩ := hBx.four
    obtain ⟨x0, x1, x2, x3, -⟩ := (HW.out.2.2 wx hbx).1.four
    clear HXX hdd hbx hBx ho3 HC2 HS
    have hl1 := run_len Try.underlying22 a n c
    obtain ⟨vb, w2, hrunb, hob, hbb⟩ := bools_app n0 (.slice b nh d) hd wx (boolsS.below HA.out.2.2.2.1 (below_any HW.out.1 HXB.out.1)) (by have := HA.out.2.2.2.2; have := HN.out.2.1; omega)
    obtain ⟨a2, c2, hvb, -⟩ := Leaf.row_len (L := bL) (ht := Try.underlying23) (hc := cells23) (boolsS.olies hob)
    obtain rfl : vb = .slice a2 hd.length c2 := (List.cons.inj hvb).1
    rw [← HN.out.2.1] at hrunb hob
    have hx2 := HXB.out.2.1.below hbb HXB.out.2.1.lt
    obtain ⟨s0', s1', s2', s3', j0, j1, j2, j3⟩ := hx2.four
    obtain ⟨Y, hY⟩ : ∃ Y, Y = w2.setCell ⟨dd, 1, none⟩ (.slice a2 nh c2) := ⟨_, rfl⟩
    have HJ0 : Hid (Below W.heap.size W Y ∧ wx.heap.size ≤ Y.heap.size ∧ Box Y dd 26 #[.slice none 0 0, .slice a2 nh c2, .slice a3 no c3, .int .i64 nx] ∧ boolsS.owns wx.heap.size Y [.slice a2 nh c2] hd ∧ bksR.owns W.heap.size Y [.slice a3 no c3] op) := by
      rw [hY]
      exact ⟨(HXB.out.1.trans (hbb.mono HXB.out.1.size)).setCell (p := ⟨dd, 1, none⟩) HDD.out.1 _, by simp [World.setCell]; exact hbb.size, hx2.set 1 _, boolsS.osame hob (.set HDD.out.2), bksR.ogrown (bksR.obelow HXB.out.2.2 hbb) (grown_set _ _ _ _) (hx2.clear (by decide))⟩
    clear hob hbb hx2 hvb
    go_upto_region 3 with (at_builtin; refine list_app rfl _ _ 23 rfl rfl rfl rfl hrunb ?_)
    rw [← hY]
    clear hY t0 t1 t2 t3 u0 u1 u2 u3 x0 x1 x2 x3 s0' s1' s2' s3' j0 j1 j2 j3 hrunb HXB
    go_wp2
    go_loopw [4] (fun i wr => ∃ k : Nat, k ≤ n ∧ i = .int .i64 k ∧ Hid (Below W.heap.size W wr ∧ wx.heap.size ≤ wr.heap.size ∧ ∃ v, sgsR.owns wx.heap.size wr [v] (l.take k) ∧ Box wr dd 26 #[v, .slice a2 nh c2, .slice a3 no c3, .int .i64 nx] ∧ boolsS.owns wx.heap.size wr [.slice a2 nh c2] hd ∧ bksR.owns W.heap.size wr [.slice a3 no c3] op)) (fun i _ => n - (intOf i).toNat)
    case atStart => exact ⟨0, Nat.zero_le _, rfl, HJ0.out.1, HJ0.out.2.1, _, Shape.list_nil sgR 22 Try.underlying22 cells22 _ _, HJ0.out.2.2⟩
    case round =>
      obtain ⟨k, hk, rfl, HJ⟩ := hrel
      obtain ⟨hbr, hwz, v, hv, hBr, hb1, hb2⟩ := HJ.out
      obtain ⟨av, cv, _, hvv, -⟩ := Shape.list_own (S := sgR) (ht := Try.underlying22) (hc := cells22) hv
      obtain rfl : v = .slice av (l.take k).length cv := (List.cons.inj hvv).1
      have hW2 := HW.out.2.1
      have hTL : (l.take k).length = k := by have := HN.out.1; rw [List.length_take]; omega
      rw [hTL] at hv hBr
      by_cases hlt : k < n
      · obtain ⟨p, hp⟩ := get_lt (l := l) (k := k) (by rw [← HN.out.1]; exact hlt)
        have HTK : Hid (l.take (k + 1) = l.take k ++ [p] ∧ (l.take k).length = k) := ⟨take_snoc hp, hTL⟩
        obtain ⟨pb, po, x, cap, hix, c0, c1, hL, _⟩ := sgs_atR HA.out.1 k p hp
        obtain ⟨_, _, e0, hLb, hI, _⟩ := sg_viewR hL
        obtain ⟨m, hm⟩ : ∃ m, m = p.2.length := ⟨_, rfl⟩
        have HSW : Hid (∀ V, Below w.heap.size w V → V.cell? ⟨pb, po, none⟩ = some (.int .i64 p.1) ∧ V.cell? ⟨pb, po + 1, none⟩ = some (.slice x m cap)) := fun V h2 => ⟨by rw [h2.cell (cell_lt c0)]; exact c0, by rw [h2.cell (cell_lt c1)]; rw [hm]; exact c1⟩
        have HS : Hid (∀ V, Below wr.heap.size wr V → V.cell? ⟨dd, 0, none⟩ = some (.slice av k cv) ∧ V.cell? ⟨w.heap.size, 0, none⟩ = some (.slice a n c) ∧ V.cell? ⟨pb, po, none⟩ = some (.int .i64 p.1) ∧ V.cell? ⟨pb, po + 1, none⟩ = some (.slice x m cap)) := fun V hV => by
          have h1 := below_any hbr hV
          have h2 := HSW.out V (below_any HW.out.1 h1)
          exact ⟨(hBr.below hV hBr.lt).four.1, ((HW.out.2.2 V h1).1).four.1, h2.1, h2.2⟩
        have HC : Hid (Calls Try.prog 73 #[.slice x m cap] wr.drew fun e w' => (∃ v', e = .returned v' ∧ bksR.owns wr.heap.size w' [v'] p.2) ∧ Below wr.heap.size wr w') := (rown_any n0 (.slice x m cap) p.2 wr.drew (bksR.below (bksR.below (by rw [hm]; simp at e0; obtain ⟨rfl, rfl⟩ := e0; exact hLb) (below_any HW.out.1 hbr)) (Below.refl _ _).drew) (HA.out.2.1 p (List.mem_of_getElem? hp))).mono fun e w' h => ⟨h.1, ((Below.refl _ wr).drew).trans h.2⟩
        have HJ2 : Hid (Below W.heap.size W wr ∧ wx.heap.size ≤ wr.heap.size ∧ sgsR.owns wx.heap.size wr [.slice av k cv] (l.take k) ∧ Box wr dd 26 #[.slice av k cv, .slice a2 nh c2, .slice a3 no c3, .int .i64 nx] ∧ boolsS.owns wx.heap.size wr [.slice a2 nh c2] hd ∧ bksR.owns W.heap.size wr [.slice a3 no c3] op ∧ I64 p.1) := ⟨hbr, hwz, hv, hBr, hb1, hb2, hI⟩
        have hki : (k : Int) < (n : Int) := by omega
        obtain ⟨t0, -⟩ := ((HW.out.2.2 wr hbr).1).four
        clear hp c0 c1 hL hbr hv hBr hb1 hb2 HJ hm hTL hLb hI e0 hwz
        go_upto_region 6 with fail
        clear t0
        refine AnyBut.begin (fun V => V.cell? ⟨dd, 0, none⟩ = some (.slice av k cv) ∧ V.cell? ⟨w.heap.size, 0, none⟩ = some (.slice a n c) ∧ V.cell? ⟨pb, po, none⟩ = some (.int .i64 p.1) ∧ V.cell? ⟨pb, po + 1, none⟩ = some (.slice x m cap)) 19 (by kernel_rfl) ?_
        have hSS := HS.out wr.drew (Below.refl _ wr).drew
        refine tt 0 24 ?_ hSS ?_ ?_; rotate_left
        · intro W9 hSW; (try dsimp only at hSW); go_simp; try with_reducible rfl
        simp only [ua, ub, uc, ud]
        refine tt 1 25 ?_ hSS ?_ ?_; rotate_left
        · intro W9 hSW; (try dsimp only at hSW); go_simp; try with_reducible rfl
        simp only [ua, ub, uc, ud]
        refine tt 2 26 ?_ hSS ?_ ?_; rotate_left
        · intro W9 hSW; (try dsimp only at hSW); go_simp; try with_reducible rfl
        simp only [ua, ub, uc, ud]
        refine tt 3 27 ?_ hSS ?_ ?_; rotate_left
        · intro W9 hSW; (try dsimp only at hSW); go_simp; try with_reducible rfl
        simp only [ua, ub, uc, ud]
        refine tt 4 28 ?_ hSS ?_ ?_; rotate_left
        · intro W9 hSW; (try dsimp only at hSW); go_simp; try with_reducible rfl
        simp only [ua, ub, uc, ud]
        refine tt 5 29 ?_ hSS ?_ ?_; rotate_left
        · intro W9 hSW; (try dsimp only at hSW); go_simp; try with_reducible rfl
        simp only [ua, ub, uc, ud]
        refine tt 6 30 ?_ hSS ?_ ?_; rotate_left
        · intro W9 hSW; (try dsimp only at hSW); go_simp; try with_reducible rfl
        simp only [ua, ub, uc, ud]
        refine tt 7 31 ?_ hSS ?_ ?_; rotate_left
        · intro W9 hSW; (try dsimp only at hSW); go_simp; try with_reducible rfl
        simp only [ua, ub, uc, ud]
        refine tt 8 32 ?_ hSS ?_ ?_; rotate_left
        · intro W9 hSW; (try dsimp only at hSW); go_simp; try with_reducible rfl
        simp only [ua, ub, uc, ud]
        refine tt 9 33 ?_ hSS ?_ ?_; rotate_left
        · intro W9 hSW; (try dsimp only at hSW); go_simp; try with_reducible rfl
        simp only [ua, ub, uc, ud]
        refine tt 10 34 ?_ hSS ?_ ?_; rotate_left
        · intro W9 hSW; (try dsimp only at hSW); go_simp; try with_reducible rfl
        simp only [ua, ub, uc, ud]
        refine tt 11 35 ?_ hSS ?_ ?_; rotate_left
        · intro W9 hSW; (try dsimp only at hSW); go_simp; try with_reducible rfl
        simp only [ua, ub, uc, ud]
        refine tt 12 36 ?_ hSS ?_ ?_; rotate_left
        · intro W9 hSW; (try dsimp only at hSW); go_simp; try with_reducible rfl
        simp only [ua, ub, uc, ud]
        refine tt 13 37 ?_ hSS ?_ ?_; rotate_left
        · intro W9 hSW; (try dsimp only at hSW); go_simp; try with_reducible rfl
        simp only [ua, ub, uc, ud]
        refine AnyBut.step (i := 14) (by kernel_rfl) rfl (fun K hK => ?_)
        go_simp
        refine Calls.mono HC.out ?_
        rintro e5 w5 ⟨⟨v5, rfl, ho5⟩, hb5⟩
        dsimp only
        refine hK.out _ _ (HS.out w5 hb5) ?_
        clear hK hSS
        have hSS := HS.out w5 hb5
        obtain ⟨a5, c5, _, hv5, -⟩ := Shape.list_own (S := bkR) (ht := Try.underlying24) (hc := cells24) ho5
        obtain rfl : v5 = .slice a5 p.2.length c5 := (List.cons.inj hv5).1
        refine tt 15 39 ?_ hSS ?_ ?_; rotate_left
        · intro W9 hSW; (try dsimp only at hSW); go_simp; try with_reducible rfl
        simp only [ua, ub, uc, ud]
        clear hSS
        refine AnyBut.step (i := 16) (by kernel_rfl) rfl (fun K hK => ?_)
        go_simp
        have hb6 : Below wr.heap.size wr (w5.alloc (.cells #[.int .i64 p.1, .slice a5 p.2.length c5] 91)) := hb5.alloc hb5.size _
        refine hK.out _ _ (HS.out _ hb6) ?_
        clear hK
        obtain ⟨i3, hi3, hz30, hz31, hz32⟩ := info_parts Try.info91
        have hbw5 := HJ2.out.1.trans (hb5.mono HJ2.out.1.size)
        have hws5 : wx.heap.size ≤ w5.heap.size := Nat.le_trans HJ2.out.2.1 hb5.size
        obtain ⟨g7, c7, w7, hrun, ho7, hg7, hs7⟩ := list_append sgR 22 Try.underlying22 cells22 hi3 hz30 hz31 hz32 rfl (by decide) (by decide) (sgsR.obelow HJ2.out.2.2.1 hb5) (sg_omkR (s := p) (bksR.oweaken ho5 HJ2.out.2.1) HJ2.out.2.2.2.2.2.2) hws5 (by rw [HTK.out.2]; omega) (by rw [HTK.out.2]; unfold maxLen; omega)
        rw [HTK.out.2] at hrun ho7
        rw [← HTK.out.1] at ho7
        obtain ⟨_, hrow⟩ : ∃ xs, w5.ownsRow wx.heap.size 91 2 (.slice av k cv) (l.take k).length xs := by
          obtain ⟨v9, vss, hv9, hown, _⟩ := sgsR.obelow HJ2.out.2.2.1 hb5
          obtain rfl : Value.slice av k cv = v9 := by simpa using hv9
          exact ⟨_, hown⟩
        have hx7 : Box w7 dd 26 #[.slice av k cv, .slice a2 nh c2, .slice a3 no c3, .int .i64 nx] := (HJ2.out.2.2.2.1.below hb5 HJ2.out.2.2.2.1.lt).grown hg7 ((HJ2.out.2.2.2.1.below hb5 HJ2.out.2.2.2.1.lt).apart hrow (by decide))
        have hbw7 : Below W.heap.size W w7 := below_row hbw5 (own_weaken hrow (by have := HDD.out; omega)) hg7 hbw5.size
        have hb17 := boolsS.ogrown (boolsS.obelow HJ2.out.2.2.2.2.1 hb5) hg7 (.own hrow (by decide))
        have hb27 := bksR.ogrown (bksR.obelow HJ2.out.2.2.2.2.2.1 hb5) hg7 (.own hrow (by decide))
        have hS7 : w7.cell? ⟨dd, 0, none⟩ = some (.slice av k cv) ∧ w7.cell? ⟨w.heap.size, 0, none⟩ = some (.slice a n c) ∧ w7.cell? ⟨pb, po, none⟩ = some (.int .i64 p.1) ∧ w7.cell? ⟨pb, po + 1, none⟩ = some (.slice x m cap) := ⟨hx7.four.1, ((HW.out.2.2 w7 hbw7).1).four.1, (HSW.out w7 (below_any HW.out.1 hbw7)).1, (HSW.out w7 (below_any HW.out.1 hbw7)).2⟩
        refine AnyBut.step (i := 17) (by kernel_rfl) rfl (fun K hK => ?_)
        refine step_app rfl _ _ 22 rfl rfl rfl rfl hrun ?_
        refine hK.out _ _ hS7 ?_
        clear hK
        have hSS := hS7
        refine tt 18 42 ?_ hSS ?_ ?_; rotate_left
        · intro W9 hSW; (try dsimp only at hSW); go_simp; try with_reducible rfl
        obtain ⟨z0, z1, z2, z3, j0, j1, j2, j3⟩ := hx7.four
        obtain ⟨Y, hY⟩ : ∃ Y, Y = w7.setCell ⟨dd, 0, none⟩ (.slice (some ⟨g7, 0, none⟩) (k + 1) c7) := ⟨_, rfl⟩
        have HF : Hid (Below W.heap.size W Y ∧ wx.heap.size ≤ Y.heap.size ∧ ∃ v, sgsR.owns wx.heap.size Y [v] (l.take (k + 1)) ∧ Box Y dd 26 #[v, .slice a2 nh c2, .slice a3 no c3, .int .i64 nx] ∧ boolsS.owns wx.heap.size Y [.slice a2 nh c2] hd ∧ bksR.owns W.heap.size Y [.slice a3 no c3] op) := by
          rw [hY]
          exact ⟨hbw7.setCell (p := ⟨dd, 0, none⟩) HDD.out.1 _, by simp [World.setCell]; omega, _, sgsR.ogrown ho7 (grown_set _ _ _ _) (hx7.clear (by decide)), hx7.set 0 _, boolsS.ogrown hb17 (grown_set _ _ _ _) (hx7.clear (by decide)), bksR.ogrown hb27 (grown_set _ _ _ _) (hx7.clear (by decide))⟩
        refine AnyBut.last (by kernel_rfl) (by kernel_rfl) rfl (fun K hK => ?_)
        go_simp
        rw [← hY]
        refine hK.out _ _ ?_
        clear hK hSS hS7 hx7 hbw7 hb17 hb27 hrow ho7 hg7 hs7 hrun hbw5 hi3 hz30 hz31 hz32 hb6 ho5 hb5 hY z0 z1 z2 z3 j0 j1 j2 j3 hix hws5
        go_wp2
        go_roundw
        case rel => exact ⟨k + 1, by omega, by go_num, HF.out⟩
        case measure => simp [intOf]; omega
      · obtain rfl : k = n := by omega
        have hT : l.take k = l := by rw [HN.out.1]; simp
        rw [hT] at hv
        have HE : Hid (Below w.heap.size w wr ∧ ∀ U, Same W.heap.size wr U → wr.heap.size ≤ U.heap.size → SepR (w.heap.size + 2) U [.slice av k cv, .slice a2 nh c2, .slice a3 no c3, .int .i64 nx] (l, hd, op, nx)) := ⟨below_any HW.out.1 hbr, fun U hU hUs => ⟨_, _, _, wx.heap.size, rfl, by have := HDD.out; omega, by omega, sgsR.osame hv (fun k h1 h2 => hU k (by have := HDD.out; omega) h2), boolsS.osame hb1 (fun k h1 h2 => hU k (by have := HDD.out; omega) h2), by rw [← hW2]; exact bksR.osame hb2 hU, HOB.out, HA.out.2.2.1⟩⟩
        obtain ⟨t0, -⟩ := ((HW.out.2.2 wr hbr).1).four
        obtain ⟨y0, y1, y2, y3, j0, j1, j2, j3⟩ := ((HW.out.2.2 wr hbr).2).four
        obtain ⟨z0, z1, z2, z3, -⟩ := hBr.four
        have HSZ : Hid (W.heap.size = w.heap.size + 2) := hW2
        clear hv hBr hb1 hb2 HJ hbr hW2 hT hTL
        go_wp2
        refine bodyPost_ret (v := .agg #[.slice av k cv, .slice a2 nh c2, .slice a3 no c3, .int .i64 nx]) (by simp [results, Try.results45, go_sem, *]) rfl ?_
        exact HPo.out [_, _, _, _] _ (HE.out.2 _ (.set4 (by have := HSZ.out; omega)) (by simp [World.setCell])) (below_set4 HE.out.1 (by omega) _ _ _ _)

end Go.Proofs.Ytkpckadicjdieaa

/-
  What the document's Put answers, for every store and block.
-/
namespace Go.Proofs.Ytkpckadicjdieaa
open Go.RowKit

theorem s0_ownsR (n : Nat) (w : World) : stR.owns n w [.slice none 0 0, .slice none 0 0, .slice none 0 0, .int .i64 0] s0 := st_nilR n w
/-- A call that answers a store of the document's and a number. -/
def TellsR (k : Int) (s' : St) (w : World) (e : Ending) (w' : World) : Prop := (∃ us', e = .returned (.tuple #[.agg us'.toArray, .int .i64 k]) ∧ stR.owns w.heap.size w' us' s') ∧ Below w.heap.size w w'

set_option maxRecDepth 100000 in
set_option maxHeartbeats 8000000 in
theorem rput_any (n0 n1 : Nat) (us : List Value) (s : St) (ub : List Value) (p : Bk) (w : World) (h : stR.lies n0 w us s) (hp : bkR.lies n1 w ub p) (h1 : n1 ≤ w.heap.size) :
    Calls Try.prog 12 #[.agg us.toArray, .agg ub.toArray] w (TellsR (pE s p) (pS s p) w) := by
  obtain ⟨a, c, b, d, e, f, rfl, hS, hH, hO, hN, m1, m2, m3⟩ := st_viewR h
  obtain ⟨x, cap, rfl, hA, hpo, hpi⟩ := bk_view hp
  obtain ⟨po, pi, pd⟩ := p
  simp only at hA hpo hpi ⊢
  obtain ⟨post, hpost⟩ : ∃ post : Ending → World → Prop, post = TellsR (pE s (po, pi, pd)) (pS s (po, pi, pd)) w := ⟨_, rfl⟩
  have HNO : Hid (∀ k w', pE s (po, pi, pd) = k → k ≠ 0 → Below w.heap.size w w' → post (.returned (.tuple #[.agg #[.slice none 0 0, .slice none 0 0, .slice none 0 0, .int .i64 0], .int .i64 k])) w') := fun k w' e1 e2 e3 => by
    rw [hpost]
    refine ⟨⟨_, by rw [e1], ?_⟩, e3⟩
    unfold pS
    rw [if_neg (by rw [e1]; exact e2)]
    exact s0_ownsR _ _
  have HYES : Hid (∀ us' w', pE s (po, pi, pd) = 0 → stR.owns w.heap.size w' us' (s.1, s.2.1, s.2.2.1 ++ [(po, pi, pd)], s.2.2.2) → Below w.heap.size w w' → post (.returned (.tuple #[.agg us'.toArray, .int .i64 0])) w') := fun us' w' e1 e2 e3 => by
    rw [hpost]
    refine ⟨⟨us', by rw [e1], ?_⟩, e3⟩
    unfold pS
    rw [if_pos e1]
    exact e2
  rw [← hpost]
  clear hpost
  obtain ⟨m, hm⟩ : ∃ m, m = pd.length := ⟨_, rfl⟩
  rw [← hm] at hA ⊢
  obtain ⟨n, hn⟩ : ∃ n, n = s.1.length := ⟨_, rfl⟩
  obtain ⟨nh, hnh⟩ : ∃ n, n = s.2.1.length := ⟨_, rfl⟩
  obtain ⟨no, hno⟩ : ∃ n, n = s.2.2.1.length := ⟨_, rfl⟩
  obtain ⟨nx, hnx⟩ : ∃ n, n = s.2.2.2 := ⟨_, rfl⟩
  rw [← hn, ← hnh, ← hno, ← hnx] at h ⊢
  obtain ⟨W, hW⟩ : ∃ W, W = ((w.alloc (.cells #[.slice a n c, .slice b nh d, .slice e no f, .int .i64 nx] 26)).alloc (.cells #[.int .i64 po, .int .i64 pi, .slice x m cap] 29)).alloc (.cells #[.slice none 0 0, .slice none 0 0, .slice none 0 0, .int .i64 0] 26) := ⟨_, rfl⟩
  have hbW : Below w.heap.size w W := by rw [hW]; exact (((Below.refl _ w).alloc (Nat.le_refl _) _).alloc (by simp) _).alloc (by simp; omega) _
  have hB1 : Box W w.heap.size 26 #[.slice a n c, .slice b nh d, .slice e no f, .int .i64 nx] := by rw [hW]; exact ((Box.new _ _ _).alloc _).alloc _
  have hB2 : Box W (w.heap.size + 1) 29 #[.int .i64 po, .int .i64 pi, .slice x m cap] := by
    rw [hW]
    have := Box.new (w.alloc (.cells #[.slice a n c, .slice b nh d, .slice e no f, .int .i64 nx] 26)) 29 #[.int .i64 po, .int .i64 pi, .slice x m cap]
    rw [World.size_alloc] at this
    exact this.alloc _
  have hB3 : Box W (w.heap.size + 2) 26 #[.slice none 0 0, .slice none 0 0, .slice none 0 0, .int .i64 0] := by
    rw [hW]
    have := Box.new ((w.alloc (.cells #[.slice a n c, .slice b nh d, .slice e no f, .int .i64 nx] 26)).alloc (.cells #[.int .i64 po, .int .i64 pi, .slice x m cap] 29)) 26 #[.slice none 0 0, .slice none 0 0, .slice none 0 0, .int .i64 0]
    rwa [World.size_alloc, World.size_alloc] at this
  have HC := rcheckL_any n0 [.slice a n c, .slice b nh d, .slice e no f, .int .i64 nx] s W (stR.below h hbW)
  have HW : Hid (Below w.heap.size w W ∧ W.heap.size = w.heap.size + 3 ∧ ∀ V, Below W.heap.size W V → Box V w.heap.size 26 #[.slice a n c, .slice b nh d, .slice e no f, .int .i64 nx] ∧ Box V (w.heap.size + 1) 29 #[.int .i64 po, .int .i64 pi, .slice x m cap] ∧ Box V (w.heap.size + 2) 26 #[.slice none 0 0, .slice none 0 0, .slice none 0 0, .int .i64 0]) := ⟨hbW, by rw [hW]; simp, fun V hV => ⟨hB1.below hV hB1.lt, hB2.below hV hB2.lt, hB3.below hV hB3.lt⟩⟩
  have HA : Hid (stR.lies n0 w [.slice a n c, .slice b nh d, .slice e no f, .int .i64 nx] s ∧ Arg n1 w (.slice x m cap) pd ∧ I64 po ∧ I64 pi ∧ m = pd.length ∧ no = s.2.2.1.length ∧ n1 ≤ w.heap.size) := ⟨h, hA, hpo, hpi, hm, hno, h1⟩
  obtain ⟨g0, g1, g2, g3, -⟩ := hB1.four
  rw [hW] at g0 g1 g2 g3
  clear h hp h1 hS hH hO hN m1 m2 m3 hA hpo hpi hbW hB1 hB2 hB3 hm hn hnh hno hnx
  go_enter Try.func12, Try.ntmps12
  go_wp2_with fail
  rw [← hW]
  clear hW g0 g1 g2 g3
  refine HC.mono ?_
  rintro e1 w1 ⟨rfl, hb1⟩
  obtain ⟨hx1, hx2, hx3⟩ := HW.out.2.2 w1 hb1
  have HB1 : Hid (Below W.heap.size W w1) := hb1
  rcases okE_cases s with ⟨hk, hok⟩ | ⟨hk, hok⟩
  case inr =>
    rw [hk]
    obtain ⟨y0, y1, y2, y3, j0, j1, j2, j3⟩ := hx3.four
    have HE := HNO.out 9 ((((w1.setCell ⟨w.heap.size + 2, 0, none⟩ (.slice none 0 0)).setCell ⟨w.heap.size + 2, 1, none⟩ (.slice none 0 0)).setCell ⟨w.heap.size + 2, 2, none⟩ (.slice none 0 0)).setCell ⟨w.heap.size + 2, 3, none⟩ (.int .i64 0)) (by
      have : okB s = false := by cases hb : okB s with | false => rfl | true => exact absurd (ok_iff.1 hb) hok
      unfold pE; rw [if_pos this]) (by decide) (below_set4 (below_any HW.out.1 hb1) (by omega) _ _ _ _)
    have HE : Hid _ := HE
    clear hb1 hx1 hx2 hx3 hok hk
    go_wp2
    refine bodyPost_ret (v := .tuple #[.agg #[.slice none 0 0, .slice none 0 0, .slice none 0 0, .int .i64 0], .int .i64 9]) (by simp [results, Try.results12, go_sem, *]) rfl HE.out
  case inl =>
    rw [hk]
    obtain ⟨q0, q1, q2, -⟩ := hx2.three
    have HOK : Hid (Ok s ∧ okB s = true) := ⟨hok, ok_iff.2 hok⟩
    have hbw1 := below_any HW.out.1 hb1
    have HM := rmay_any x cap (po, pi, pd) (by obtain ⟨_, _, _, _, h9, _⟩ := HA.out.2.1.shape; exact h9) w1
    simp only at HM
    rw [← HA.out.2.2.2.2.1] at HM
    clear hk hok hx1 hx2 hx3 hb1 hbw1
    cases hmay : mayB (po, pi, pd)
    · rw [hmay] at HM
      go_wp2_with fail
      refine HM.mono ?_
      rintro e2 w2 ⟨rfl, hb2⟩
      have hbw := HB1.out.trans (hb2.mono HB1.out.size)
      obtain ⟨y0, y1, y2, y3, j0, j1, j2, j3⟩ := (HW.out.2.2 w2 hbw).2.2.four
      have HE := HNO.out 1 ((((w2.setCell ⟨w.heap.size + 2, 0, none⟩ (.slice none 0 0)).setCell ⟨w.heap.size + 2, 1, none⟩ (.slice none 0 0)).setCell ⟨w.heap.size + 2, 2, none⟩ (.slice none 0 0)).setCell ⟨w.heap.size + 2, 3, none⟩ (.int .i64 0)) (by unfold pE; rw [if_neg (by rw [HOK.out.2]; simp), if_pos hmay]) (by decide) (below_set4 (below_any HW.out.1 hbw) (by omega) _ _ _ _)
      have HE : Hid _ := HE
      clear hb2 hbw hmay
      go_wp2
      refine bodyPost_ret (v := .tuple #[.agg #[.slice none 0 0, .slice none 0 0, .slice none 0 0, .int .i64 0], .int .i64 1]) (by simp [results, Try.results12, go_sem, *]) rfl HE.out
    · rw [hmay] at HM
      have HMY : Hid (mayB (po, pi, pd) = true) := hmay
      go_wp2_with fail
      clear hmay
      refine HM.mono ?_
      rintro e2 w2 ⟨rfl, hb2⟩
      have hbw := HB1.out.trans (hb2.mono HB1.out.size)
      have HB2 : Hid (Below W.heap.size W w2) := hbw
      obtain ⟨hx1, hx2, hx3⟩ := HW.out.2.2 w2 hbw
      obtain ⟨z0, z1, z2, z3, i0, i1, i2, i3⟩ := hx1.four
      have hl3 := run_len Try.underlying24 e no f
      clear hb2 hbw HM q0 q1 q2
      by_cases h8 : 8 ≤ no
      · have HE := HNO.out 51 ((((w2.setCell ⟨w.heap.size + 2, 0, none⟩ (.slice none 0 0)).setCell ⟨w.heap.size + 2, 1, none⟩ (.slice none 0 0)).setCell ⟨w.heap.size + 2, 2, none⟩ (.slice none 0 0)).setCell ⟨w.heap.size + 2, 3, none⟩ (.int .i64 0)) (by unfold pE; rw [if_neg (by rw [HOK.out.2]; simp), if_neg (by rw [HMY.out]; simp), if_pos (by rw [← HA.out.2.2.2.2.2.1]; omega)]) (by decide) (below_set4 (below_any HW.out.1 HB2.out) (by omega) _ _ _ _)
        have HE : Hid _ := HE
        have h8i : (8 : Int) ≤ (no : Int) := by omega
        obtain ⟨y0, y1, y2, y3, j0, j1, j2, j3⟩ := hx3.four
        clear hx1 hx2 hx3
        go_wp2
        refine bodyPost_ret (v := .tuple #[.agg #[.slice none 0 0, .slice none 0 0, .slice none 0 0, .int .i64 0], .int .i64 51]) (by simp [results, Try.results12, go_sem, *]) rfl HE.out
      · have h8i : ¬ (8 : Int) ≤ (no : Int) := by omega
        have h8d : decide ((8 : Int) ≤ (no : Int)) = false := decide_eq_false h8i
        have HCC := rownL_any n0 [.slice a n c, .slice b nh d, .slice e no f, .int .i64 nx] s w2 (stR.below HA.out.1 (below_any HW.out.1 HB2.out)) HOK.out.1.fits
        have HPE : Hid (pE s (po, pi, pd) = 0) := by
          show pE _ _ = 0
          unfold pE
          rw [if_neg (by rw [HOK.out.2]; simp), if_neg (by rw [HMY.out]; simp), if_neg (by rw [← HA.out.2.2.2.2.2.1]; exact h8)]
        clear hx1 hx2 hx3 h8
        go_wp2_with fail
        refine HCC.mono ?_
        rintro e3 w3 ⟨⟨us3, rfl, ho3⟩, hb3⟩
        obtain ⟨v1, v2, v3, B, rfl, hB0, hB1, hSG, hBO, hOP, hOB, hNX⟩ := ho3
        obtain ⟨a1, c1, _, hv1, -⟩ := Shape.list_own (S := sgR) (ht := Try.underlying22) (hc := cells22) hSG
        obtain ⟨a2, c2, hv2, -⟩ := Leaf.row_len (L := bL) (ht := Try.underlying23) (hc := cells23) (boolsS.olies hBO)
        obtain ⟨a3, c3, _, hv3, -⟩ := Shape.list_own (S := bkR) (ht := Try.underlying24) (hc := cells24) hOP
        obtain rfl : v1 = _ := (List.cons.inj hv1).1
        obtain rfl : v2 = _ := (List.cons.inj hv2).1
        obtain rfl : v3 = _ := (List.cons.inj hv3).1
        have hbw3 : Below W.heap.size W w3 := HB2.out.trans (hb3.mono HB2.out.size)
        obtain ⟨l, hd, op, nx'⟩ := s
        simp only at hSG hBO hOP hOB hNX ⊢
        obtain ⟨X, hX⟩ : ∃ X, X = w3.alloc (.cells #[.slice a1 l.length c1, .slice a2 hd.length c2, .slice a3 op.length c3, .int .i64 nx'] 26) := ⟨_, rfl⟩
        have hbX3 : Below w3.heap.size w3 X := by rw [hX]; exact (Below.refl _ _).alloc (Nat.le_refl _) _
        have hxX : Box X w3.heap.size 26 #[.slice a1 l.length c1, .slice a2 hd.length c2, .slice a3 op.length c3, .int .i64 nx'] := by rw [hX]; exact Box.new _ _ _
        have hbX : Below W.heap.size W X := hbw3.trans (hbX3.mono hbw3.size)
        have hW3 := HW.out.2.1
        have hw2 : w.heap.size + 3 ≤ w2.heap.size := by have := HB2.out.size; omega
        have hw3 := hb3.size
        have HX : Hid (Below W.heap.size W X ∧ w.heap.size + 3 ≤ w2.heap.size ∧ w2.heap.size ≤ w3.heap.size ∧ w3.heap.size < X.heap.size ∧ w2.heap.size + 2 ≤ B ∧ B ≤ w3.heap.size ∧ sgsR.owns B X [.slice a1 l.length c1] l ∧ boolsS.owns B X [.slice a2 hd.length c2] hd ∧ bksR.owns (w2.heap.size + 2) X [.slice a3 op.length c3] op ∧ (∀ g, (Value.slice a3 op.length c3).ownBlock = some g → g < B) ∧ I64 nx') := ⟨hbX, hw2, hw3, hxX.lt, hB0, hB1, sgsR.obelow hSG hbX3, boolsS.obelow hBO hbX3, bksR.obelow hOP hbX3, hOB, hNX⟩
        have HXB : Hid (∀ U, Below X.heap.size X U → Box U w3.heap.size 26 #[.slice a1 l.length c1, .slice a2 hd.length c2, .slice a3 op.length c3, .int .i64 nx'] ∧ Box U (w.heap.size + 1) 29 #[.int .i64 po, .int .i64 pi, .slice x m cap] ∧ Box U (w.heap.size + 2) 26 #[.slice none 0 0, .slice none 0 0, .slice none 0 0, .int .i64 0]) := fun U hU => ⟨hxX.below hU hxX.lt, (HW.out.2.2 U (hbX.trans (hU.mono hbX.size))).2⟩
        have HS : Hid (∀ U, Box U w3.heap.size 26 #[.slice a1 l.length c1, .slice a2 hd.length c2, .slice a3 op.length c3, .int .i64 nx'] → Box U (w.heap.size + 1) 29 #[.int .i64 po, .int .i64 pi, .slice x m cap] → U.cell? ⟨w3.heap.size, 2, none⟩ = some (.slice a3 op.length c3) ∧ U.cell? ⟨w.heap.size + 1, 0, none⟩ = some (.int .i64 po) ∧ U.cell? ⟨w.heap.size + 1, 1, none⟩ = some (.int .i64 pi) ∧ U.cell? ⟨w.heap.size + 1, 2, none⟩ = some (.slice x m cap)) := fun U h1 h2 => ⟨h1.four.2.2.1, h2.three.1, h2.three.2.1, h2.three.2.2.1⟩
        have HFEW : Hid (op.length ≤ 8) := HOK.out.1.few
        have HCP : Hid (Calls Try.prog 46 #[.slice x m cap] X.drew fun e w' => (∃ v', e = .returned v' ∧ Own1 X.heap.size w' v' pd) ∧ Below X.heap.size X w') := (rcopied_any n1 (.slice x m cap) pd X.drew ((HA.out.2.1.below (below_any HW.out.1 hbX)).below (Below.refl _ _).drew) (by have := may_len HMY.out; simp only at this; omega)).mono fun e w' h => ⟨h.1, ((Below.refl _ X).drew).trans h.2⟩
        go_upto_region 8 with fail
        rw [← hX]
        clear hX hxX hbX hbX3 hW3 hw2 hw3 hSG hBO hOP hOB hNX hv1 hv2 hv3 hb3 hbw3 hB0 hB1 z0 z1 z2 z3 i0 i1 i2 i3 HCC h8i h8d
        refine AnyBut.begin (fun U => U.cell? ⟨w3.heap.size, 2, none⟩ = some (.slice a3 op.length c3) ∧ U.cell? ⟨w.heap.size + 1, 0, none⟩ = some (.int .i64 po) ∧ U.cell? ⟨w.heap.size + 1, 1, none⟩ = some (.int .i64 pi) ∧ U.cell? ⟨w.heap.size + 1, 2, none⟩ = some (.slice x m cap)) 13 (by kernel_rfl) ?_
        have hbD : Below X.heap.size X X.drew := (Below.refl _ X).drew
        have hSS := HS.out X.drew (HXB.out X.drew hbD).1 (HXB.out X.drew hbD).2.1
        refine tt 0 25 ?_ hSS ?_ ?_; rotate_left
        · intro W9 hSW; (try dsimp only at hSW); go_simp; try with_reducible rfl
        simp only [ua, ub, uc, ud]
        refine tt 1 26 ?_ hSS ?_ ?_; rotate_left
        · intro W9 hSW; (try dsimp only at hSW); go_simp; try with_reducible rfl
        simp only [ua, ub, uc, ud]
        refine tt 2 27 ?_ hSS ?_ ?_; rotate_left
        · intro W9 hSW; (try dsimp only at hSW); go_simp; try with_reducible rfl
        simp only [ua, ub, uc, ud]
        refine tt 3 28 ?_ hSS ?_ ?_; rotate_left
        · intro W9 hSW; (try dsimp only at hSW); go_simp; try with_reducible rfl
        simp only [ua, ub, uc, ud]
        refine tt 4 29 ?_ hSS ?_ ?_; rotate_left
        · intro W9 hSW; (try dsimp only at hSW); go_simp; try with_reducible rfl
        simp only [ua, ub, uc, ud]
        refine tt 5 30 ?_ hSS ?_ ?_; rotate_left
        · intro W9 hSW; (try dsimp only at hSW); go_simp; try with_reducible rfl
        simp only [ua, ub, uc, ud]
        refine tt 6 31 ?_ hSS ?_ ?_; rotate_left
        · intro W9 hSW; (try dsimp only at hSW); go_simp; try with_reducible rfl
        simp only [ua, ub, uc, ud]
        refine tt 7 32 ?_ hSS ?_ ?_; rotate_left
        · intro W9 hSW; (try dsimp only at hSW); go_simp; try with_reducible rfl
        simp only [ua, ub, uc, ud]
        refine AnyBut.step (i := 8) (by kernel_rfl) rfl (fun K hK => ?_)
        go_simp
        refine Calls.mono HCP.out ?_
        rintro e4 w4 ⟨⟨v4, rfl, ho4⟩, hb4⟩
        dsimp only
        refine hK.out _ _ (HS.out w4 (HXB.out w4 hb4).1 (HXB.out w4 hb4).2.1) ?_
        clear hK hSS
        have hSS := HS.out w4 (HXB.out w4 hb4).1 (HXB.out w4 hb4).2.1
        obtain ⟨a4, c4, hv4⟩ := ho4.shape
        subst hv4
        refine tt 9 34 ?_ hSS ?_ ?_; rotate_left
        · intro W9 hSW; (try dsimp only at hSW); go_simp; try with_reducible rfl
        simp only [ua, ub, uc, ud]
        clear hSS
        refine AnyBut.step (i := 10) (by kernel_rfl) rfl (fun K hK => ?_)
        go_simp
        have hb6 : Below X.heap.size X (w4.alloc (.cells #[.int .i64 po, .int .i64 pi, .slice a4 pd.length c4] 29)) := hb4.alloc hb4.size _
        refine hK.out _ _ (HS.out _ (HXB.out _ hb6).1 (HXB.out _ hb6).2.1) ?_
        clear hK
        obtain ⟨i3, hi3, hz30, hz31, hz32⟩ := info_parts Try.info29
        have hXs := HX.out.2.2.2.1
        have hw23 := HX.out.2.2.1
        have hB3 := HX.out.2.2.2.2.1
        have hB4 := HX.out.2.2.2.2.2.1
        have hw2 := HX.out.2.1
        have hb4s := hb4.size
        obtain ⟨g5, c5, w5, hrun, ho5, hg5, hs5⟩ := list_append bkR 24 Try.underlying24 cells24 hi3 hz30 hz31 hz32 rfl (by decide) (by decide) (bksR.obelow HX.out.2.2.2.2.2.2.2.2.1 hb4) (bk_omk (p := (po, pi, pd)) (bytesS.oweaken ho4 (by omega)) HA.out.2.2.1 HA.out.2.2.2.1) (by omega) (by have := HFEW.out; omega) (by have := HFEW.out; unfold maxLen; omega)
        obtain ⟨_, hrow⟩ : ∃ xs, w4.ownsRow (w2.heap.size + 2) 29 3 (.slice a3 op.length c3) op.length xs := by
          obtain ⟨v9, vss, hv9, hown, _⟩ := bksR.obelow HX.out.2.2.2.2.2.2.2.2.1 hb4
          obtain rfl : Value.slice a3 op.length c3 = v9 := by simpa using hv9
          exact ⟨_, hown⟩
        have hne : ∀ j, B ≤ j → some j ≠ (Value.slice a3 op.length c3).ownBlock := fun j hj he => by
          have := HX.out.2.2.2.2.2.2.2.2.2.1 j he.symm
          omega
        have hx5 := (HXB.out w4 hb4).1.grown hg5 (hne _ (by omega))
        have hy5 := (HXB.out w4 hb4).2.1.grown hg5 (row_ne hrow (by omega))
        have hz5 := (HXB.out w4 hb4).2.2.grown hg5 (row_ne hrow (by omega))
        have hbw5 : Below W.heap.size W w5 := below_row (HX.out.1.trans (hb4.mono HX.out.1.size)) (own_weaken hrow (by have := HW.out.2.1; omega)) hg5 (by have := HX.out.1.size; omega)
        have hs5w : Same B w4 w5 := fun j h1 h2 => hg5.block j h2 (hne j h1)
        have hsg5 := sgsR.osame (sgsR.obelow HX.out.2.2.2.2.2.2.1 hb4) hs5w
        have hbo5 := boolsS.osame (boolsS.obelow HX.out.2.2.2.2.2.2.2.1 hb4) hs5w
        refine AnyBut.step (i := 11) (by kernel_rfl) rfl (fun K hK => ?_)
        refine step_app rfl _ _ 24 rfl rfl rfl rfl hrun ?_
        refine hK.out _ _ (HS.out w5 hx5 hy5) ?_
        clear hK
        have hSS := HS.out w5 hx5 hy5
        refine tt 12 37 ?_ hSS ?_ ?_; rotate_left
        · intro W9 hSW; (try dsimp only at hSW); go_simp; try with_reducible rfl
        obtain ⟨z0, z1, z2, z3, j0, j1, j2, j3⟩ := hx5.four
        obtain ⟨Y, hY⟩ : ∃ Y, Y = w5.setCell ⟨w3.heap.size, 2, none⟩ (.slice (some ⟨g5, 0, none⟩) (op.length + 1) c5) := ⟨_, rfl⟩
        have hxY : Box Y w3.heap.size 26 #[.slice a1 l.length c1, .slice a2 hd.length c2, .slice (some ⟨g5, 0, none⟩) (op.length + 1) c5, .int .i64 nx'] := by rw [hY]; exact hx5.set 2 _
        have hzY : Box Y (w.heap.size + 2) 26 #[.slice none 0 0, .slice none 0 0, .slice none 0 0, .int .i64 0] := by rw [hY]; exact hz5.other (by omega)
        have HY : Hid (stR.owns (w.heap.size + 3) Y [.slice a1 l.length c1, .slice a2 hd.length c2, .slice (some ⟨g5, 0, none⟩) (op.length + 1) c5, .int .i64 nx'] (l, hd, op ++ [(po, pi, pd)], nx') ∧ Below w.heap.size w Y) := ⟨st_omkR (s := (l, hd, op ++ [(po, pi, pd)], nx')) (by rw [hY]; exact sgsR.ogrown (sgsR.oweaken hsg5 (by omega)) (grown_set _ _ _ _) (hx5.clear (by decide))) (by rw [hY]; exact boolsS.ogrown (boolsS.oweaken hbo5 (by omega)) (grown_set _ _ _ _) (hx5.clear (by decide))) (by rw [hY]; exact bksR.ogrown (bksR.oweaken ho5 (by omega)) (grown_set _ _ _ _) (hx5.clear (by decide))) HX.out.2.2.2.2.2.2.2.2.2.2, by rw [hY]; exact (below_any HW.out.1 hbw5).setCell (p := ⟨w3.heap.size, 2, none⟩) (by show w.heap.size ≤ w3.heap.size; omega) _⟩
        refine AnyBut.last (by kernel_rfl) (by kernel_rfl) rfl (fun K hK => ?_)
        go_simp
        rw [← hY]
        refine hK.out _ _ ?_
        clear hK hSS
        obtain ⟨q0, q1, q2, q3, -⟩ := hxY.four
        obtain ⟨y0, y1, y2, y3, f0, f1, f2, f3⟩ := hzY.four
        have HPE2 : Hid (∀ U, Same (w.heap.size + 3) Y U → Below w.heap.size w U → post (.returned (.tuple #[.agg #[.slice a1 l.length c1, .slice a2 hd.length c2, .slice (some ⟨g5, 0, none⟩) (op.length + 1) c5, .int .i64 nx'], .int .i64 0])) U) := fun U h1 h2 => HYES.out [_, _, _, _] U HPE.out (stR.oweaken (stR.osame HY.out.1 h1) (by omega)) h2
        have HYB : Hid (Below w.heap.size w Y) := HY.out.2
        clear hY hxY hzY HY hx5 hy5 hz5 hne hrow hrun ho5 hg5 hs5 ho4 hb4 z0 z1 z2 z3 j0 j1 j2 j3 hi3 hz30 hz31 hz32 hB3 hB4 HX HXB HS hbw5 hs5w hsg5 hbo5 hXs hw23 hw2 hb4s hb6
        go_wp2
        refine bodyPost_ret (v := .tuple #[.agg #[.slice a1 l.length c1, .slice a2 hd.length c2, .slice (some ⟨g5, 0, none⟩) (op.length + 1) c5, .int .i64 nx'], .int .i64 0]) (by simp [results, Try.results12, go_sem, *]) rfl ?_
        exact HPE2.out _ (.set4 (by omega)) (below_set4 HYB.out (by omega) _ _ _ _)

end Go.Proofs.Ytkpckadicjdieaa
