/-
  What numberOf answers: 0 of no error, and a fault's own number.
-/
import Derived.Test.YtfpllfjdgpcmdaaDoorAs
namespace Go.Proofs.YtfpllfjdgpcmdaaDoor
open Go.RowKit

/-- A fault as an error. -/
abbrev faultV (k : Int) : Value := .iface 96 (.agg #[.int .i64 k])

set_option maxHeartbeats 1000000 in
theorem numberOf_nil (w : World) : Calls Tryd.prog 36 #[.nilIface] w fun e w' => e = .returned (.int .i64 0) ∧ Below w.heap.size w w' := by
  have HA := as_nil (.iface 98 (.pointer (some ⟨w.heap.size, 0, none⟩))) (w.alloc (.cells #[.int .i64 0] 96))
  have HB : Hid (Below w.heap.size w (w.alloc (.cells #[.int .i64 0] 96))) := (Below.refl _ w).alloc (Nat.le_refl _) _
  go_enter Tryd.func36, Tryd.ntmps36
  go_wp2_with fail
  refine HA.mono ?_
  rintro e w1 ⟨rfl, rfl⟩
  go_wp2
  go_ret
  exact ⟨rfl, HB.out⟩

set_option maxHeartbeats 1000000 in
theorem numberOf_fault (k : Int) (w : World) (hg : Glob w) : Calls Tryd.prog 36 #[faultV k] w fun e w' => e = .returned (.int .i64 k) ∧ Below w.heap.size w w' := by
  obtain ⟨W, hW⟩ : ∃ W, W = w.alloc (.cells #[.int .i64 0] 96) := ⟨_, rfl⟩
  have hb : Below w.heap.size w W := by rw [hW]; exact (Below.refl _ w).alloc (Nat.le_refl _) _
  have hP : Box W w.heap.size 96 #[.int .i64 0] := by rw [hW]; exact Box.new w 96 _
  have HA := as_hit k ⟨w.heap.size, 0, none⟩ _ W (hg.below hb hg.lt) (hP.cell 0 rfl) (hP.frozen 0)
  have HW : Hid (Below w.heap.size w W ∧ Box W w.heap.size 96 #[.int .i64 0]) := ⟨hb, hP⟩
  clear hb hP hg
  go_enter Tryd.func36, Tryd.ntmps36
  go_wp2_with fail
  rw [← hW]
  clear hW
  refine HA.mono ?_
  rintro e w1 ⟨rfl, V, hbV, rfl⟩
  have hPV := (HW.out.2.below hbV HW.out.2.lt).set 0 (.int .i64 k)
  have g0 := hPV.cell 0 (u := .int .i64 k) rfl
  have HB : Hid (Below w.heap.size w (V.setCell ⟨w.heap.size, 0, none⟩ (.int .i64 k))) := (below_any HW.out.1 hbV).setCell (p := ⟨w.heap.size, 0, none⟩) (Nat.le_refl _) _
  obtain ⟨V2, hV2⟩ : ∃ V2, V2 = V.setCell ⟨w.heap.size, 0, none⟩ (.int .i64 k) := ⟨_, rfl⟩
  rw [← hV2] at g0 HB ⊢
  clear hPV hbV HA hV2
  go_wp2
  go_ret
  exact ⟨rfl, HB.out⟩

end Go.Proofs.YtfpllfjdgpcmdaaDoor
