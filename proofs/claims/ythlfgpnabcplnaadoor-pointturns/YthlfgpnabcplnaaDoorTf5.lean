/-
  The closed facts of the row pointTurns, one by one.
-/
import Derived.Test.YthlfgpnabcplnaaDoorTie
import Derived.Test.YthlfgpnabcplnaaDoorCards
import Derived.JoinedCond
import Derived.Deep.DeepHandedRow
import Derived.ChangeMaps5
namespace Go.Proofs.YthlfgpnabcplnaaDoor.pointTurns
open Go.ChangeShapes Go.WideShapes Go.ChangeAt Go.ChangeMaps

theorem k0 : (Rows.pointTurnsRow.wf (OpenSpec.ofChange Rows.pointTurnsSpec)) = true := by kernel_rfl
theorem k1 : (laidOutB Tryd.pinned.checked.prog) = true := by kernel_rfl
theorem k2 : (mapsRowed Tryd.pinned.checked.prog) = true := by kernel_rfl
theorem k3 : (Tryd.f4.params.all (Tryd.pinned.checked.prog.readableRec ·)) = true := by kernel_rfl
theorem k4 : (namedTie Tryd.pinned.checked.prog Rows.pointTurnsRow.named Rows.pointTurnsSpec.vars) = true := by kernel_rfl
theorem k5 : (Rows.pointTurnsRow.stops == []) = true := by kernel_rfl
theorem k6 : (Tryd.pinned.checked.prog.stops == []) = true := by kernel_rfl
theorem k7 : (Rows.pointTurnsRow.knobs == []) = true := by kernel_rfl
theorem k8 : (Tryd.pinned.checked.prog.stopKnobs == []) = true := by kernel_rfl
theorem k9 : (Rows.pointTurnsRow.inPlace == Tryd.pinned.checked.prog.inPlace 4) = true := by kernel_rfl
theorem k10 : (Rows.pointTurnsRow.unfollowed == Tryd.pinned.checked.prog.unfollowed 4) = true := by kernel_rfl
theorem k11 : (Rows.pointTurnsRow.recurses == Tryd.pinned.checked.prog.recurses 4) = true := by kernel_rfl
theorem k12 : (Rows.pointTurnsRow.named == Tryd.pinned.checked.prog.varsNamed 4) = true := by kernel_rfl
theorem k13 : (Rows.pointTurnsRow.maps == (Tryd.f4.params.toList ++ Rows.pointTurnsSpec.plain.varTypes Tryd.pinned.checked.prog).any (Tryd.pinned.checked.prog.mapsRec ·)) = true := by kernel_rfl
theorem k14 : (Rows.pointTurnsRow.ifaces == (Tryd.f4.params.toList ++ Rows.pointTurnsSpec.plain.varTypes Tryd.pinned.checked.prog).any (Tryd.pinned.checked.prog.ifacesRec ·)) = true := by kernel_rfl
theorem k15 : (Rows.pointTurnsRow.mapsOut == Tryd.pinned.checked.prog.mapsAmong Tryd.f4.resultTypes.toList) = true := by kernel_rfl
theorem k16 : (Rows.pointTurnsRow.loops == (Tryd.f4.params.toList ++ Rows.pointTurnsSpec.plain.varTypes Tryd.pinned.checked.prog).any (Tryd.pinned.checked.prog.loopsFrom ·)) = true := by kernel_rfl
theorem k17 : (Rows.pointTurnsRow.wideKeys == (Tryd.f4.params.toList ++ Rows.pointTurnsSpec.plain.varTypes Tryd.pinned.checked.prog ++ Tryd.f4.resultTypes.toList).any (Tryd.pinned.checked.prog.wideKeysFrom ·)) = true := by kernel_rfl
theorem k18 : (Rows.pointTurnsSpec.vars.all (Tryd.pinned.checked.prog.varReadable ·)) = true := by kernel_rfl
theorem k19 : (Tryd.f4.resultTypes.all (fun t => Tryd.pinned.checked.prog.readableRec t && decide (t < Tryd.pinned.checked.prog.types.size))) = true := by kernel_rfl
theorem k20 : (Rows.pointTurnsRow.ifacesOut == Tryd.f4.resultTypes.toList.any (Tryd.pinned.checked.prog.ifacesRec ·)) = true := by kernel_rfl
theorem k21 : (Rows.pointTurnsRow.loopsOut == Tryd.f4.resultTypes.toList.any (Tryd.pinned.checked.prog.loopsFrom ·)) = true := by kernel_rfl
theorem k22 : (Rows.pointTurnsRow.plainKeys == Tryd.pinned.checked.prog.plainKeys) = true := by kernel_rfl
theorem k23 : (Rows.pointTurnsRow.shortTexts.isNone) = true := by kernel_rfl
theorem k24 : (Tryd.pinned.checked.prog.stopsHeard) = true := by kernel_rfl
theorem k25 : (Tryd.pinned.checked.prog.mayEnter) = true := by kernel_rfl
theorem k26 : (Rows.pointTurnsRow.lifted == Tryd.pinned.checked.prog.liftsFinal) = true := by kernel_rfl
theorem k27 : (Tryd.pinned.checked.prog.make == some Rows.pointTurnsRow.make) = true := by kernel_rfl
theorem k28 : (Rows.pointTurnsRow.kinds == (if Rows.pointTurnsRow.domain.isEmpty then [] else Tryd.f4.params.toList.map fun t => match Tryd.pinned.checked.prog.underlying t with | some (.int k) => some k | _ => none)) = true := by kernel_rfl
theorem k29 : (Rows.pointTurnsRow.pinned == Rows.pointTurnsRow.pinnedBy) = true := by kernel_rfl
theorem k30 : (Rows.pointTurnsRow.veiled == (Tryd.f4.params.toList ++ Rows.pointTurnsSpec.plain.varTypes Tryd.pinned.checked.prog ++ Tryd.f4.resultTypes.toList).any (Tryd.pinned.checked.prog.veiledRec ·)) = true := by kernel_rfl
theorem k31 : (Rows.pointTurnsRow.veiledFits Tryd.pinned.checked.prog Tryd.f4.params.toList (Tryd.f4.params.toList ++ Rows.pointTurnsSpec.plain.varTypes Tryd.pinned.checked.prog ++ Tryd.f4.resultTypes.toList)) = true := by kernel_rfl
theorem both {a b : Bool} (h1 : a = true) (h2 : b = true) : (a && b) = true := by rw [h1, h2]; rfl
set_option maxRecDepth 100000 in
theorem closed : joinedFacts Tryd.pinned.checked.prog 4 Tryd.f4 Rows.pointTurnsSpec Rows.pointTurnsRow = true := (both (both (both (both (both (both (both (both (both (both (both (both (both (both (both (both (both (both (both (both (both (both (both (both (both (both (both (both (both (both (both k0 k1) k2) k3) k4) k5) k6) k7) k8) k9) k10) k11) k12) k13) k14) k15) k16) k17) k18) k19) k20) k21) k22) k23) k24) k25) k26) k27) k28) k29) k30) k31)

end Go.Proofs.YthlfgpnabcplnaaDoor.pointTurns
