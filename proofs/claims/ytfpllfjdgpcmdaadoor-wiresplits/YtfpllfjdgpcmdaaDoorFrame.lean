/-
  Facts of the program on which every frame of a law leans: what the listed variable holds, and a world in which it does.
-/
import Derived.Test.YtfpllfjdgpcmdaaDoorShape
import Derived.LaidLaws
import Derived.LaidHandle
import Derived.Stop.Joined
namespace Go.Proofs.YtfpllfjdgpcmdaaDoor
open Go.ChangeShapes Go.WideShapes Go.ChangeAt Go.RowKit

theorem own : ownKnob Tryd.prog.godebug = none := by kernel_rfl
theorem laidOut : laidOutB Tryd.prog = true := by kernel_rfl

/-- A struct's cells as a list. -/
theorem as_list (cs : Array Value) : ∃ us : List Value, cs = us.toArray := ⟨cs.toList, by simp⟩

abbrev listed : List (String × DataW Unit) := [("errors.errorType", Rows.laid_errors_errorType)]
/-- The listed variable's one cell: the handle of the type of errors. -/
def Glob (w : World) : Prop := w.cell? ⟨0, 0, none⟩ = some (.iface 126 (.agg #[.pointer (some ⟨1, 64, none⟩)]))
theorem Glob.below {n : Nat} {w w' : World} (h : Glob w) (hb : Below n w w') (hn : 0 < n) : Glob w' := by
  unfold Glob
  rw [hb.cell (p := ⟨0, 0, none⟩) hn]
  exact h
theorem Glob.lt {w : World} (h : Glob w) : 0 < w.heap.size := cell_lt h

theorem et : Tryd.prog.globalNamed "errors.errorType" = some 0 := by kernel_rfl
theorem rt : (Tryd.prog.cutTypes.find? (·.1 == "internal/reflectlite.rtype")).map (·.2) = some 126 := by kernel_rfl
theorem typesSize : Tryd.prog.types.size = 168 := by kernel_rfl
theorem oneRow : ((List.range 168).filter fun t => Tryd.prog.rowNamed t [101, 114, 114, 111, 114]) = [64] := by kernel_rfl

theorem handle_of_laid {W : World} (h : laidMetH Tryd.prog listed W) : Glob W := by
  have h' : laidMet Tryd.prog [] W ∧ handlesMet Tryd.prog listed W := h
  obtain ⟨name, u, ty, e1, e2, e3, e4, e5⟩ := h'.2 _ (List.mem_singleton.2 rfl)
  have en : name = [101, 114, 114, 111, 114] := (Option.some.inj e1).symm
  subst en
  obtain rfl := Option.some.inj (rt.symm.trans e2)
  have hm : ty ∈ (List.range 168).filter fun t => Tryd.prog.rowNamed t [101, 114, 114, 111, 114] := List.mem_filter.2 ⟨List.mem_range.2 (by rw [← typesSize]; exact e3), e4⟩
  rw [oneRow] at hm
  obtain rfl := List.mem_singleton.1 hm
  have hh : typeHandle Tryd.prog 64 = .pointer (some ⟨1, 64, none⟩) := by kernel_rfl
  rw [hh] at e5
  have := World.var?_cell et e5 0
  simpa [Glob] using this

/-- A world that meets the condition: the settled one, the variable's cell laid. -/
def laidOf (w0 : World) : World :=
  { w0 with heap := w0.heap.modify 0 fun
      | .cells _ t frozen => .cells #[.iface 126 (.agg #[.pointer (some ⟨1, 64, none⟩)])] t frozen
      | o => o }
theorem laidWorld_met (os : Os) (args : Array Value) : laidMetH Tryd.prog listed ((laidOf (World.holding Tryd.prog os ⟨#[], #[], []⟩)).forCall (fun _ _ => 0) ⟨#[], args, []⟩).memory :=
  laidMetH_of_parts (laidMet_nil _ _) (by kernel_rfl)

end Go.Proofs.YtfpllfjdgpcmdaaDoor
