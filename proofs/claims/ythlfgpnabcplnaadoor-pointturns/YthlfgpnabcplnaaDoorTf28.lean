import Derived.Test.YthlfgpnabcplnaaDoorTf27
import Derived.Lib.SlBytesConst
/-
  What Flush and Crash make of any disk, and that the statements' example holds.
-/
namespace Go.Proofs.YthlfgpnabcplnaaDoor.Dk
open Go.RowKit Go.Shelf
set_option maxRecDepth 100000

def Bools (n0 : Nat) (w : World) (v : Value) (bl : List Bool) : Prop := Cells n0 w 1 v bl.length (bl.map Value.bool)
theorem Bools.keep {n0 : Nat} {w w' : World} {v : Value} {bl : List Bool} (h : Bools n0 w v bl) (hs : Same n0 w w') : Bools n0 w' v bl := Cells.keep h hs
theorem Bools.below {n0 : Nat} {w w' : World} {v : Value} {bl : List Bool} (h : Bools n0 w v bl) (hb : Below w.heap.size w w') : Bools n0 w' v bl := h.keep (.of_below hb)

/-- The i-th is kept, if there is an i-th, and it is true. -/
def kept (bl : List Bool) (j : Nat) : Bool := bl.getD j false


set_option maxHeartbeats 1000000 in
theorem flush_any (n0 : Nat) (v : Value) (S : St) (w : World) (h : Disk n0 w v S) :
    Calls Tryd.prog 30 #[v] w fun e w' => ∃ v', e = .returned (.tuple #[v', .int .i64 (cerr S)]) ∧ Disk w.heap.size w' v' (stand S fun _ => true) ∧ Below w.heap.size w w' := by
  have HD : Hid (Disk n0 w v S) := h
  obtain ⟨a1, c1, a2, c2, rfl, hL, hW⟩ := h.shape
  obtain ⟨ce, hce⟩ : ∃ x, x = cerr S := ⟨_, rfl⟩
  rw [← hce]
  have HCE : Hid (ce = cerr S) := hce
  clear h hL hW hce
  go_enter Tryd.func30, Tryd.ntmps30
  go_wp2_with fail
  have hb0 : Below w.heap.size w ((w.alloc (.cells #[.slice a1 S.secs.length c1, .slice a2 S.cache.length c2] 40)).alloc (.cells #[.slice none 0 0, .slice none 0 0] 40)) := ((Below.refl _ w).alloc (Nat.le_refl _) _).alloc (by simp) _
  refine (settle_any n0 _ S 47 #[] (fun _ => true) _ (HD.out.below hb0) (enters_of Tryd.func47 (by kernel_rfl) rfl) (fun W j _ => every_any j W)).mono ?_
  rw [← HCE.out]
  rintro e w1 ⟨v', rfl, hD1, hb1⟩
  have hR1 : Box w1 (w.heap.size + 1) 40 (.slice none 0 0) (.slice none 0 0) := by
    have := Box.new (w.alloc (.cells #[.slice a1 S.secs.length c1, .slice a2 S.cache.length c2] 40)) 40 (.slice none 0 0) (.slice none 0 0)
    rw [World.size_alloc] at this
    exact this.below hb1 (by simp)
  obtain ⟨b1, d1, b2, d2, rfl, _, _⟩ := hD1.shape
  have g2 := hR1.cell0
  have g3 := hR1.cell1
  have g4 := hR1.frozen0
  have g5 := hR1.frozen1
  obtain ⟨tn, htn⟩ : ∃ x, x = (stand S fun _ => true).secs.length := ⟨_, rfl⟩
  obtain ⟨tm, htm⟩ : ∃ x, x = (stand S fun _ => true).cache.length := ⟨_, rfl⟩
  rw [← htn, ← htm] at hD1 ⊢
  have HF : Hid (Disk (w.heap.size + 2) w1 (.agg #[.slice b1 tn d1, .slice b2 tm d2]) (stand S fun _ => true) ∧ Below w.heap.size w w1) := by
    refine ⟨?_, below_any hb0 hb1⟩
    simpa using hD1
  clear hD1 hb0 hb1 hR1 htn htm HCE
  go_wp2
  refine bodyPost_ret (v := .tuple #[.agg #[.slice b1 tn d1, .slice b2 tm d2], .int .i64 ce]) (by simp [results, Tryd.results30, go_sem, *]) rfl ⟨_, rfl, ?_, ?_⟩
  · exact Disk.weaken (n0 := w.heap.size + 2) ((HF.out.1.keep (same_set (n := w.heap.size + 2) (B := w.heap.size + 1) (by omega))).keep (same_set (n := w.heap.size + 2) (B := w.heap.size + 1) (by omega))) (by omega)
  · exact below_set2 HF.out.2 (Nat.le_succ _) _ _


def S0 : St := ⟨List.replicate 2 zeros, []⟩
def S1 : St := ⟨List.replicate 2 zeros, [(1, pad [97, 98])]⟩
theorem ex1 : perr S0 1 [97, 98] = 0 := by kernel_rfl
theorem ex2 : pst S0 1 [97, 98] = S1 := by kernel_rfl
theorem ex3 : gerr S1 1 1 = 0 := by kernel_rfl
theorem ex4 : gout S1 1 1 = pad [97, 98] := by kernel_rfl
theorem ex5 : cerr S1 = 0 := by kernel_rfl
theorem ex6 : stand S1 (kept []) = S0 := by kernel_rfl
theorem ex7 : gerr S0 1 1 = 0 := by kernel_rfl
theorem ex8 : gout S0 1 1 = zeros := by kernel_rfl

theorem own_at {w : World} {base : Nat} {v : Value} {l : List Int} (h : w.ownsRow base 5 1 v l.length (l.map (Value.int .u8))) (hp : 0 < l.length) : ∃ g cap, v = .slice (some ⟨g, 0, none⟩) l.length cap ∧ w.cell? ⟨g, 0, none⟩ = some (.int .u8 (l.getD 0 0)) := by
  obtain ⟨g, cap, rfl, _⟩ := h.form hp
  refine ⟨g, cap, rfl, ?_⟩
  have := h.cells (g := g) rfl 0 (.int .u8 (l.getD 0 0)) (by simp [hp])
  rwa [add_plain] at this


end Go.Proofs.YthlfgpnabcplnaaDoor.Dk

/-
  A disk that was flushed has rows of its own.
-/
namespace Go.Proofs.YthlfgpnabcplnaaDoor.Dk
open Go.RowKit
set_option maxRecDepth 100000

set_option maxHeartbeats 1000000 in
theorem flush_grid (n0 : Nat) (v : Value) (S : St) (w : World) (h : Disk n0 w v S) (hS : chk S = true) :
    Calls Tryd.prog 30 #[v] w fun e w' => ∃ vs, e = .returned (.tuple #[.agg #[vs, .slice none 0 0], .int .i64 0]) ∧ Grid w.heap.size w' vs (stand S fun _ => true).secs ∧ Below w.heap.size w w' := by
  have HD : Hid (Disk n0 w v S) := h
  obtain ⟨a1, c1, a2, c2, rfl, hL, hW⟩ := h.shape
  have hst : (stand S fun _ => true).secs = fill (List.replicate S.secs.length zeros) (items S fun _ => true) := by rw [stand_good hS]
  obtain ⟨rows, hrows⟩ : ∃ x, x = (stand S fun _ => true).secs := ⟨_, rfl⟩
  rw [← hrows] at hst ⊢
  have HST : Hid (rows = fill (List.replicate S.secs.length zeros) (items S fun _ => true) ∧ chk S = true) := ⟨hst, hS⟩
  clear h hL hW hst hS hrows
  go_enter Tryd.func30, Tryd.ntmps30
  go_wp2_with fail
  have hb0 : Below w.heap.size w ((w.alloc (.cells #[.slice a1 S.secs.length c1, .slice a2 S.cache.length c2] 40)).alloc (.cells #[.slice none 0 0, .slice none 0 0] 40)) := ((Below.refl _ w).alloc (Nat.le_refl _) _).alloc (by simp) _
  refine (settle_good n0 _ S 47 #[] (fun _ => true) _ (HD.out.below hb0) HST.out.2 (enters_of Tryd.func47 (by kernel_rfl) rfl) (fun W j _ => every_any j W)).mono ?_
  rw [← HST.out.1]
  rintro e w1 ⟨vs, rfl, hD1, hb1⟩
  have hR1 : Box w1 (w.heap.size + 1) 40 (.slice none 0 0) (.slice none 0 0) := by
    have := Box.new (w.alloc (.cells #[.slice a1 S.secs.length c1, .slice a2 S.cache.length c2] 40)) 40 (.slice none 0 0) (.slice none 0 0)
    rw [World.size_alloc] at this
    exact this.below hb1 (by simp)
  obtain ⟨b1, d1, rfl, _⟩ := hD1.lists.shape
  have g2 := hR1.cell0
  have g3 := hR1.cell1
  have g4 := hR1.frozen0
  have g5 := hR1.frozen1
  obtain ⟨tn, htn⟩ : ∃ x, x = rows.length := ⟨_, rfl⟩
  rw [← htn] at hD1 ⊢
  have HF : Hid (Grid (w.heap.size + 2) w1 (.slice b1 tn d1) rows ∧ Below w.heap.size w w1) := by
    refine ⟨?_, below_any hb0 hb1⟩
    simpa using hD1
  clear hD1 hb0 hb1 hR1 htn
  go_wp2
  refine bodyPost_ret (v := .tuple #[.agg #[.slice b1 tn d1, .slice none 0 0], .int .i64 0]) (by simp [results, Tryd.results30, go_sem, *]) rfl ⟨_, rfl, ?_, ?_⟩
  · exact Grid.weaken (n0 := w.heap.size + 2) (Grid.set (B := w.heap.size + 1) (Grid.set (B := w.heap.size + 1) HF.out.1 (by omega)) (by omega)) (by omega)
  · exact below_set2 HF.out.2 (Nat.le_succ _) _ _

end Go.Proofs.YthlfgpnabcplnaaDoor.Dk
