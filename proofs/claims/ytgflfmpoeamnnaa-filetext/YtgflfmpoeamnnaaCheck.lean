/-
  What mayStand and Check answer.
-/
import Derived.Test.YtgflfmpoeamnnaaCut
import Derived.Deep.RegionHeld3
namespace Go.Proofs.Ytgflfmpoeamnnaa
open Go.RowKit

theorem quiet_still {f : FuncId} {args : Array Value} {w : World} {n : Nat} {v : Value} (h : Calls Try.prog f args (w.drewN n) fun e w' => e = .returned v ∧ w.drewN n = w') : Calls Try.prog f args (w.drewN n) fun e w'' => e = .returned v ∧ ∃ m, w'' = w.drewN m :=
  h.mono fun _ _ ⟨he, hm⟩ => ⟨he, n, hm.symm⟩

set_option maxRecDepth 100000 in
set_option maxHeartbeats 4000000 in
theorem stand_any (n0 : Nat) (a : Option Addr) (cap : Nat) (x : Int) (d : List Int) (s : Int) (w : World) (hx : 0 ≤ x ∧ x ≤ 1000) (hs : 0 ≤ s ∧ s ≤ 100000) (h : Arg n0 w (.slice a d.length cap) d) :
    Calls Try.prog 34 #[.agg #[.int .i64 x, .slice a d.length cap], .int .i64 s] w fun e w' => e = .returned (.bool (stand (x, d) s)) ∧ Below w.heap.size w w' := by
  obtain ⟨W, hW⟩ : ∃ W, W = w.alloc (.cells #[.int .i64 x, .slice a d.length cap] 60) := ⟨_, rfl⟩
  have hb : Below w.heap.size w W := by rw [hW]; exact (Below.refl _ w).alloc (Nat.le_refl _) _
  have hP : Box W w.heap.size 60 #[.int .i64 x, .slice a d.length cap] := by rw [hW]; exact Box.new w 60 _
  have hA : Arg n0 W (.slice a d.length cap) d := h.below hb
  have HZ : ∀ r, Calls Try.prog 36 #[.slice a d.length cap] (W.drewN r) fun e w' => e = .returned (.bool (isz d)) ∧ W.drewN r = w' := fun r => zero_any n0 _ d (W.drewN r) (hA.below (below_drewN (Below.refl _ _) r))
  have HI : ∀ r, Calls Try.prog 33 #[.int .i64 x, .int .i64 s] (W.drewN r) fun e w' => e = .returned (.int .i64 (ins x s)) ∧ W.drewN r = w' := fun r => inside_any x s (W.drewN r) hx hs
  have hin : ins x s ≤ 32 := by unfold ins; omega
  obtain ⟨st, hst⟩ : ∃ b, b = stand (x, d) s := ⟨_, rfl⟩
  have HST : Hid (st = (decide (d.length = 32) && !isz d && isz (d.drop (ins x s)))) := hst
  have hl1 := run_len Try.underlying25 a d.length cap
  obtain ⟨g0, g1, _, _⟩ := hP.two
  have HB : Hid (∀ r, Below w.heap.size w (W.drewN r)) := fun r => below_drewN hb r
  rw [← hst]
  clear hst h hb hP
  by_cases h32 : d.length = 32
  case neg =>
    obtain rfl : st = false := by rw [HST.out]; simp [h32]
    have hne : ¬ (d.length : Int) = 32 := by omega
    clear HZ HI hA HST h32
    go_enter Try.func34, Try.ntmps34
    go_wp2
    rw [← hW]
    clear hW
    go_quiet (fail)
    go_wp2
    go_ret
    exact ⟨rfl, HB.out _⟩
  have he : (d.length : Int) = 32 := by omega
  obtain ⟨v', hv', hcut⟩ := hA.behind (ins x s) (by omega)
  have HZ2 : ∀ r, Calls Try.prog 36 #[v'] (W.drewN r) fun e w' => e = .returned (.bool (isz (d.drop (ins x s)))) ∧ W.drewN r = w' := fun r => zero_any n0 _ _ (W.drewN r) (hv'.below (below_drewN (Below.refl _ _) r))
  obtain ⟨z1, hz1⟩ : ∃ b, b = isz d := ⟨_, rfl⟩
  obtain ⟨z2, hz2⟩ : ∃ b, b = isz (d.drop (ins x s)) := ⟨_, rfl⟩
  obtain ⟨i, hi⟩ : ∃ b, b = ins x s := ⟨_, rfl⟩
  rw [← hz1] at HZ
  rw [← hz2] at HZ2
  rw [← hi] at HI hcut
  rw [h32, ← hz1, ← hz2] at HST
  rw [h32] at hW hl1 g1 HZ hcut ⊢
  clear hz1 hz2 hi hA hv'
  cases z1
  case true =>
    obtain rfl : st = false := by rw [HST.out]; rfl
    go_enter Try.func34, Try.ntmps34
    go_wp2
    rw [← hW]
    clear hW
    go_quiet ((go_at_call 36; exact quiet_still (HZ _)))
    go_wp2
    go_ret
    exact ⟨rfl, HB.out _⟩
  case false =>
    obtain rfl : st = z2 := by rw [HST.out]; rfl
    go_enter Try.func34, Try.ntmps34
    go_wp2
    rw [← hW]
    clear hW
    go_quiet ((first | (go_at_call 36; with_reducible exact quiet_still (HZ _)) | (go_at_call 36; with_reducible exact quiet_still (HZ2 _)) | (go_at_call 33; exact quiet_still (HI _))))
    go_wp2
    go_ret
    exact ⟨rfl, HB.out _⟩

end Go.Proofs.Ytgflfmpoeamnnaa
