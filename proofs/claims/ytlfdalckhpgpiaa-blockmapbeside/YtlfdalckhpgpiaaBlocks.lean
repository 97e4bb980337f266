/-
  What Blocks and Span tell, the program's and the document's.
-/
import Derived.Test.YtlfdalckhpgpiaaSmall
namespace Go.Proofs.Ytlfdalckhpgpiaa
open Go.RowKit

def Blockss (f : FuncId) : Prop := ∀ (s : Int) (w : World), I64 s → Calls Try.prog f #[.int .i64 s] w fun e w' => e = .returned (.tuple #[.int .i64 (blkV s), .int .i64 (blkM s), .int .i64 (blkE s)]) ∧ w = w'
def Spans (f : FuncId) : Prop := ∀ (o n : Int) (w : World), I64 o → I64 n → Calls Try.prog f #[.int .i64 o, .int .i64 n] w fun e w' => e = .returned (.tuple #[.int .i64 (spnF o n), .int .i64 (spnK o n), .int .i64 (spnE o n)]) ∧ w = w'

theorem blk_low {s : Int} (h : s < 0) : blkV s = 0 ∧ blkM s = 0 ∧ blkE s = 4 := ⟨if_neg (by omega), if_neg (by omega), if_pos h⟩
theorem blk_high {s : Int} (h : 2432 < s) : blkV s = 0 ∧ blkM s = 0 ∧ blkE s = 107 := ⟨if_neg (by omega), if_neg (by omega), by unfold blkE; rw [if_neg (by omega), if_pos h]⟩
theorem blk_in {s : Int} (h : 0 ≤ s ∧ s ≤ 2432) : blkV s = blkN s ∧ blkM s = indM (blkN s) ∧ blkE s = 0 := ⟨if_pos h, if_pos h, by unfold blkE; rw [if_neg (by omega), if_neg (by omega)]⟩
theorem blkN_in {s : Int} (h : 0 ≤ s ∧ s ≤ 2432) : 0 ≤ blkN s ∧ blkN s ≤ 76 := by unfold blkN; omega

set_option maxRecDepth 100000 in
set_option maxHeartbeats 1000000 in
theorem blocks_any : Blockss 13 := by
  intro s w hs
  unfold I64 at hs
  by_cases h0 : s < 0
  · obtain ⟨e1, e2, e3⟩ := blk_low h0
    rw [e1, e2, e3]
    go_enter Try.func13, Try.ntmps13
    go_wp2
    go_ret3
    exact ⟨rfl, rfl⟩
  · by_cases h1 : 2432 < s
    · obtain ⟨e1, e2, e3⟩ := blk_high h1
      rw [e1, e2, e3]
      go_enter Try.func13, Try.ntmps13
      go_wp2
      go_ret3
      exact ⟨rfl, rfl⟩
    · obtain ⟨e1, e2, e3⟩ := blk_in (s := s) (by omega)
      rw [e1, e2, e3]
      have HP := parts_any s 32 w (by omega) (by omega)
      rw [show (s + 32 - 1) / 32 = blkN s by unfold blkN; omega] at HP
      have HI := indirect_any (blkN s) w (blkN_in (by omega))
      obtain ⟨n, hn⟩ : ∃ n, n = blkN s := ⟨_, rfl⟩
      rw [← hn] at HP HI ⊢
      clear hn e1 e2 e3
      go_enter Try.func13, Try.ntmps13
      go_wp2_with fail
      refine HP.mono ?_
      rintro e w1 ⟨rfl, rfl⟩
      go_wp2_with fail
      refine HI.mono ?_
      rintro e w1 ⟨rfl, rfl⟩
      go_wp2
      go_ret3
      exact ⟨rfl, rfl⟩

set_option maxRecDepth 100000 in
set_option maxHeartbeats 1000000 in
theorem rblocks_any : Blockss 14 := by
  intro s w hs
  unfold I64 at hs
  by_cases h0 : s < 0
  · obtain ⟨e1, e2, e3⟩ := blk_low h0
    rw [e1, e2, e3]
    go_enter Try.func14, Try.ntmps14
    go_wp2
    go_ret3
    exact ⟨rfl, rfl⟩
  · by_cases h1 : 2432 < s
    · obtain ⟨e1, e2, e3⟩ := blk_high h1
      rw [e1, e2, e3]
      go_enter Try.func14, Try.ntmps14
      go_wp2
      go_ret3
      exact ⟨rfl, rfl⟩
    · obtain ⟨e1, e2, e3⟩ := blk_in (s := s) (by omega)
      rw [e1, e2, e3]
      have hN := blkN_in (s := s) (by omega)
      have hq : (s + 32 - 1) / 32 = blkN s := by unfold blkN; omega
      unfold indM
      by_cases h12 : 12 < blkN s
      · rw [if_pos h12]
        have h4 : 4 < blkN s := by omega
        have hm : (blkN s - 4 - 8 + 8 - 1) / 8 = (blkN s - 5) / 8 := by omega
        have hmb : 0 ≤ (blkN s - 5) / 8 ∧ (blkN s - 5) / 8 ≤ 9 := by omega
        go_enter Try.func14, Try.ntmps14
        go_wp2
        go_ret3
        exact ⟨by go_num, rfl⟩
      · rw [if_neg h12]
        by_cases h4 : 4 < blkN s
        · rw [if_pos h4]
          go_enter Try.func14, Try.ntmps14
          go_wp2
          go_ret3
          exact ⟨by go_num, rfl⟩
        · rw [if_neg h4]
          go_enter Try.func14, Try.ntmps14
          go_wp2
          go_ret3
          exact ⟨by go_num, rfl⟩

end Go.Proofs.Ytlfdalckhpgpiaa
