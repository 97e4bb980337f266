/-
  What Truncate makes of a file.
-/
import Derived.Test.YtgflfmpoeamnnaaClear
namespace Go.Proofs.Ytgflfmpoeamnnaa
open Go.RowKit

/-- The blocks while they are cleared: those whose numbers are still to come are as they were. -/
def cutB (T : Nat → List Int) (n : Nat) (left : Nat → Bool) : Nat → List Int := fun j => if left j then T j else clr (T j) (ins j n)
theorem cutB_step (T : Nat → List Int) (n : Nat) (left : Nat → Bool) (j : Nat) : upd (cutB T n left) j (clr (T j) (ins j n)) = cutB T n (fun i => left i && !decide (i = j)) := by
  funext i
  unfold upd cutB
  by_cases e : i = j
  · subst e; simp
  · simp [e]
theorem cutB_at {T : Nat → List Int} {n : Nat} {left : Nat → Bool} {j : Nat} (h : left j = true) : cutB T n left j = T j := by unfold cutB; rw [if_pos h]
theorem cutB_done {T : Nat → List Int} {n : Nat} {left : Nat → Bool} (h : ∀ j, left j = false) : cutB T n left = fun j => clr (T j) (ins j n) := by
  funext j
  unfold cutB
  rw [if_neg (by rw [h j]; simp)]
theorem cutB_start {T : Nat → List Int} {n : Nat} {M : Nat → Option Nat} (h : ∀ j, M j = none → T j = zs) : cutB T n (fun j => (M j).isSome) = T := by
  funext j
  unfold cutB
  cases hm : M j with
  | none => rw [h j hm, clr_zs]; split <;> rfl
  | some g => rw [if_pos (show (M j).isSome = true by rw [hm]; rfl)]

set_option maxRecDepth 100000 in
set_option maxHeartbeats 4000000 in
theorem trunc_any (n0 : Nat) (us : List Value) (f : Fl) (m : Int) (w : World) (h : flN.lies n0 w us f) (hmI : I64 m) :
    Calls Try.prog 14 #[.agg us.toArray, .int .i64 m] w fun e w' => (∃ us', e = .returned (.tuple #[.agg us'.toArray, .int .i64 (trE f m)]) ∧ flN.lies w.heap.size w' us' (trF f m)) ∧ Below w.heap.size w w' := by
  obtain ⟨a, c, rfl, hL, hi, hm⟩ := fl_viewN h
  obtain ⟨s, l⟩ := f
  simp only at hL hi hm ⊢
  unfold maxLen at hm
  have HBK := fun V => blocks_any m V hmI
  unfold I64 at hmI
  obtain ⟨W, hW⟩ : ∃ W, W = (w.alloc (.cells #[.int .i64 s, .slice a l.length c] 28)).alloc (.cells #[.int .i64 0, .slice none 0 0] 28) := ⟨_, rfl⟩
  have hT : Two w W s (.slice a l.length c) := by rw [hW]; exact Two.start _ _ _
  have HC := check_any n0 [.int .i64 s, .slice a l.length c] (s, l) W (flN.below h hT.1)
  have HT : Hid (Two w W s (.slice a l.length c)) := hT
  have HL : Hid (flN.lies n0 w [.int .i64 s, .slice a l.length c] (s, l)) := h
  obtain ⟨g0, g1, _⟩ := hT.cells
  rw [hW] at g0 g1
  obtain ⟨n, hn⟩ : ∃ n, n = l.length := ⟨_, rfl⟩
  rw [← hn] at hW HT HL HC g0 g1 ⊢
  clear h hL hi hT hm hn
  cases hck : chk (s, l)
  case false =>
    rw [show cerr (s, l) = 9 by unfold cerr; rw [hck]; rfl] at HC
    have e1 : trE (s, l) m = 9 := if_pos hck
    have e2 : trF (s, l) m = (0, []) := if_neg (by rw [e1]; omega)
    rw [e1, e2]
    clear HBK e1 e2
    go_enter Try.func14, Try.ntmps14
    go_wp2_with fail
    rw [← hW]
    clear hW g0 g1
    refine HC.mono ?_
    rintro e w1 ⟨rfl, hb1⟩
    have HT1 : Hid (Two w w1 s (.slice a n c)) := HT.out.below hb1
    obtain ⟨_, _, t0, t1, f0, f1⟩ := HT1.out.cells
    go_wp2
    refine bodyPost_ret (v := .tuple #[.agg #[.int .i64 0, .slice none 0 0], .int .i64 9]) (by simp [results, Try.results14, go_sem, *]) rfl ⟨⟨[_, _], rfl, fl_nilN _ _⟩, below_set2 HT1.out.1 (by omega) _ _⟩
  rw [show cerr (s, l) = 0 by unfold cerr; rw [hck]; rfl] at HC
  by_cases hm0 : m < 0
  · have e1 : trE (s, l) m = 4 := by unfold trE; rw [if_neg (by rw [hck]; simp), if_pos hm0]
    have e2 : trF (s, l) m = (0, []) := if_neg (by rw [e1]; omega)
    rw [e1, e2]
    obtain ⟨z1, z2, z3⟩ := blk_low hm0
    rw [z1, z2, z3] at HBK
    clear e1 e2 z1 z2 z3
    go_enter Try.func14, Try.ntmps14
    go_wp2_with fail
    rw [← hW]
    clear hW g0 g1
    refine HC.mono ?_
    rintro e w1 ⟨rfl, hb1⟩
    have HT1 : Hid (Two w w1 s (.slice a n c)) := HT.out.below hb1
    obtain ⟨_, _, t0, t1, f0, f1⟩ := HT1.out.cells
    clear HC hb1
    go_wp2_with fail
    refine (HBK _).mono ?_
    rintro e w2 ⟨rfl, rfl⟩
    clear HBK
    go_wp2
    refine bodyPost_ret (v := .tuple #[.agg #[.int .i64 0, .slice none 0 0], .int .i64 4]) (by simp [results, Try.results14, go_sem, *]) rfl ⟨⟨[_, _], rfl, fl_nilN _ _⟩, below_set2 HT1.out.1 (by omega) _ _⟩
  by_cases hm1 : 2432 < m
  · have e1 : trE (s, l) m = 107 := by unfold trE; rw [if_neg (by rw [hck]; simp), if_neg hm0, if_pos hm1]
    have e2 : trF (s, l) m = (0, []) := if_neg (by rw [e1]; omega)
    rw [e1, e2]
    obtain ⟨z1, z2, z3⟩ := blk_high hm1
    rw [z1, z2, z3] at HBK
    clear e1 e2 z1 z2 z3
    go_enter Try.func14, Try.ntmps14
    go_wp2_with fail
    rw [← hW]
    clear hW g0 g1
    refine HC.mono ?_
    rintro e w1 ⟨rfl, hb1⟩
    have HT1 : Hid (Two w w1 s (.slice a n c)) := HT.out.below hb1
    obtain ⟨_, _, t0, t1, f0, f1⟩ := HT1.out.cells
    clear HC hb1
    go_wp2_with fail
    refine (HBK _).mono ?_
    rintro e w2 ⟨rfl, rfl⟩
    clear HBK
    go_wp2
    refine bodyPost_ret (v := .tuple #[.agg #[.int .i64 0, .slice none 0 0], .int .i64 107]) (by simp [results, Try.results14, go_sem, *]) rfl ⟨⟨[_, _], rfl, fl_nilN _ _⟩, below_set2 HT1.out.1 (by omega) _ _⟩
  obtain ⟨p, rfl⟩ : ∃ p : Nat, m = p := ⟨m.toNat, by omega⟩
  have hp : p ≤ 2432 := by omega
  have e1 : trE (s, l) (p : Int) = 0 := by unfold trE; rw [if_neg (by rw [hck]; simp), if_neg hm0, if_neg hm1]
  have e2 : trF (s, l) (p : Int) = ((p : Int), mkL (fun j => clr (bd l j) (ins j p)) 76) := by
    unfold trF
    rw [if_pos e1, Int.toNat_natCast]
    rw [show mkL (fun j => clr (bd l j) (ins j p)) 76 = (mk (cutT (txt (s, l)) p)).2 from clr_done hck]
    refine Prod.ext ?_ rfl
    show ((cutT (txt (s, l)) p).length : Int) = _
    rw [cutT_length]
  rw [e1, e2]
  obtain ⟨z1, z2, z3⟩ := blk_in (s := (p : Int)) (by omega)
  rw [z1, z2, z3] at HBK
  obtain ⟨y1, hy1⟩ : ∃ x, x = blkN (p : Int) := ⟨_, rfl⟩
  obtain ⟨y2, hy2⟩ : ∃ x, x = indM (blkN (p : Int)) := ⟨_, rfl⟩
  rw [← hy2, ← hy1] at HBK
  have HSP : Hid (∀ V, Two w V s (.slice a n c) → Calls Try.prog 29 #[.agg #[.int .i64 s, .slice a n c]] V fun e w' => (∃ b M c, e = .returned (.map (some b)) ∧ MT V.heap.size c w' b M (bd l) ∧ c ≤ 76) ∧ Below V.heap.size V w') := fun V hV =>
    spread_any n0 [.int .i64 s, .slice a n c] (s, l) V (flN.below HL.out hV.1) hck
  have HTL : Hid (∀ j, (bd l j).length = 32) := fun j => bd_length hck j
  obtain ⟨R, hR⟩ : ∃ R, R = mkL (fun j => clr (bd l j) (ins j p)) 76 := ⟨_, rfl⟩
  have HR : Hid (R = mkL (fun j => clr (bd l j) (ins j p)) 76) := hR
  rw [← hR]
  clear e1 e2 z1 z2 z3 hy1 hy2 hck hR HL hm0 hm1 hmI
  go_enter Try.func14, Try.ntmps14
  go_wp2_with fail
  rw [← hW]
  clear hW g0 g1
  refine HC.mono ?_
  rintro e w1 ⟨rfl, hb1⟩
  have HT1 : Hid (Two w w1 s (.slice a n c)) := HT.out.below hb1
  obtain ⟨r0, r1, _⟩ := HT1.out.cells
  clear HC hb1
  go_wp2_with fail
  refine (HBK _).mono ?_
  rintro e w2 ⟨rfl, rfl⟩
  clear HBK
  go_wp2_with fail
  refine (HSP.out _ HT1.out).mono ?_
  rintro e w2 ⟨⟨b, M, c0, rfl, hMT, hc0⟩, hb2⟩
  obtain ⟨w3, cnt0, hrange, hRG, hg3, hs3⟩ := hMT.range
  have hT2 := HT1.out.below hb2
  have HT2 : Hid (RG w1.heap.size c0 w3 b w2.heap.size M (cutB (bd l) p fun j => (M j).isSome) (fun j => (M j).isSome) cnt0 ∧ Two w w3 s (.slice a n c) ∧ c0 ≤ 76 ∧ w1.heap.size ≤ w2.heap.size) := by
    refine ⟨?_, ⟨hT2.1.grown hg3 hT2.1.size (fun _ h => by cases h), hT2.2.1.grown hg3 (by simp), hT2.2.2.grown hg3 (by simp)⟩, hc0, hb2.size⟩
    rw [cutB_start fun j hj => hMT.zero hj]
    exact hRG
  clear hMT hc0 hb2 r0 r1 hT2 hRG hg3 hs3
  go_wp2
  go_loopw [11] (fun _ wr => ∃ (left : Nat → Bool) (cnt : Nat), RG w1.heap.size c0 wr b w2.heap.size M (cutB (bd l) p left) left cnt ∧ Two w wr s (.slice a n c)) (fun _ wr => wr.rangeLeft b w2.heap.size)
  case atStart => exact ⟨_, cnt0, HT2.out.1, HT2.out.2.1⟩
  case round =>
    obtain ⟨left, cnt, hRG, hTV⟩ := hrel
    rcases hRG.next 0 with ⟨hl, hrun⟩ | ⟨j, g, w4, cnt4, hj, hlj, hrun, hRG4, hlt, hg4, hs4, hen⟩
    · have hnx : ∀ ty, (Instr.next (.pointer (some ⟨w2.heap.size, 0, none⟩)) false ty).run Try.prog wr = .ok (.tuple #[.bool false]) wr := fun _ => hrun
      have HG := gather_any w1.heap.size c0 (p : Int) b M _ wr hRG.mt (by unfold I64; omega) (by have := HT2.out.2.2.1; omega)
      rw [cutB_done hl, ← HR.out] at HG
      have HTV : Hid (Two w wr s (.slice a n c)) := hTV
      clear hRG hl hrun hTV
      go_wp2_with fail
      refine HG.mono ?_
      rintro e w5 ⟨⟨us5, rfl, hu5⟩, hb5⟩
      have HT5 : Hid (Two w w5 s (.slice a n c)) := HTV.out.below hb5
      obtain ⟨y0, y1, y2, y3, y4, y5⟩ := HT5.out.cells
      obtain ⟨a3, c3, rfl, _⟩ := fl_viewN hu5
      simp only at hu5 ⊢
      obtain ⟨rl, hrl⟩ : ∃ x, x = R.length := ⟨_, rfl⟩
      rw [← hrl] at hu5 ⊢
      have HU5 : Hid (flN.lies w1.heap.size w5 [.int .i64 (p : Int), .slice a3 rl c3] ((p : Int), R)) := hu5
      clear hu5 hb5 HG hrl hnx
      go_wp2
      refine bodyPost_ret (v := .tuple #[.agg #[.int .i64 (p : Int), .slice a3 rl c3], .int .i64 0]) (by simp [results, Try.results14, go_sem, *]) rfl ?_
      obtain ⟨h1, h2⟩ := HT5.out.ends HT1.out.lt HU5.out (.int .i64 (p : Int)) (.slice a3 rl c3)
      exact ⟨⟨_, rfl, h1⟩, h2⟩
    · have hnx : ∀ ty, (Instr.next (.pointer (some ⟨w2.heap.size, 0, none⟩)) false ty).run Try.prog wr = .ok (.tuple #[.bool true, .int .i64 j, rowV g]) w4 := fun _ => hrun
      obtain ⟨h76, hng, hrow⟩ := hRG4.mt.row hj
      rw [cutB_at hlj] at hrow
      have HI := inside_any j p w4 (by omega) (by omega)
      have hin : ins j p ≤ 32 := by unfold ins; omega
      obtain ⟨xa, xn, xc, W5, hcut, hclr, hrow5, hg5⟩ := run_clear w4 0 g (ins j p) (bd l j) hrow hin
      have hcl : ∀ ty, (Builtin.clear_ #[25] ty #[.slice xa xn xc]).run Try.prog w4 = .ok (.tuple #[]) W5 := fun _ => hclr
      have hRG5 := hRG4.over hj hg5 hrow5
      rw [cutB_step] at hRG5
      have hT5 : Two w W5 s (.slice a n c) := (hTV.grown hg4 (by have := HT1.out.lt; have := HT2.out.2.2.2; omega)).grown hg5 (by have := HT1.out.lt; omega)
      have HLE : Hid (RG w1.heap.size c0 W5 b w2.heap.size M (cutB (bd l) p fun i => left i && !decide (i = j)) (fun i => left i && !decide (i = j)) cnt4 ∧ Two w W5 s (.slice a n c) ∧ wr.rangeLeft b w2.heap.size = cnt ∧ cnt4 < cnt) := ⟨hRG5, hT5, hRG.left_eq, hlt⟩
      unfold rowV at hnx hen hcut
      obtain ⟨ij, hij⟩ : ∃ x, x = ins j p := ⟨_, rfl⟩
      rw [← hij] at HI hcut
      clear hRG hTV hrun hRG4 hlt hg4 hs4 hrow hrow5 hg5 hRG5 hT5 hclr hij hin
      go_wp2_with fail
      refine HI.mono ?_
      rintro e w6 ⟨rfl, rfl⟩
      clear HI
      go_wp2
      go_roundw
      case rel => exact ⟨_, cnt4, HLE.out.1, HLE.out.2.1⟩
      case measure => rw [HLE.out.1.left_eq, HLE.out.2.2.1]; exact HLE.out.2.2.2

end Go.Proofs.Ytgflfmpoeamnnaa
