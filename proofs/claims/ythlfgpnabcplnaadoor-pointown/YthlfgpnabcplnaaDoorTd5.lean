/-
  The closed facts of the row pointOwn, one by one.
-/
import Derived.Test.YthlfgpnabcplnaaDoorTie
import Derived.Test.YthlfgpnabcplnaaDoorCards
import Derived.JoinedCond
import Derived.Deep.DeepHandedRow
import Derived.ChangeMaps5
namespace Go.Proofs.YthlfgpnabcplnaaDoor.pointOwn
open Go.ChangeShapes Go.WideShapes Go.ChangeAt Go.ChangeMaps

theorem k0 : (Rows.pointOwnRow.wf (OpenSpec.ofChange Rows.pointOwnSpec)) = true := by kernel_rfl
theorem k1 : (laidOutB Tryd.pinned.checked.prog) = true := by kernel_rfl
theorem k2 : (mapsRowed Tryd.pinned.checked.prog) = true := by kernel_rfl
theorem k3 : (Tryd.f5.params.all (Tryd.pinned.checked.prog.readableRec ·)) = true := by kernel_rfl
theorem k4 : (namedTie Tryd.pinned.checked.prog Rows.pointOwnRow.named Rows.pointOwnSpec.vars) = true := by kernel_rfl
theorem k5 : (Rows.pointOwnRow.stops == []) = true := by kernel_rfl
theorem k6 : (Tryd.pinned.checked.prog.stops == []) = true := by kernel_rfl
theorem k7 : (Rows.pointOwnRow.knobs == []) = true := by kernel_rfl
theorem k8 : (Tryd.pinned.checked.prog.stopKnobs == []) = true := by kernel_rfl
theorem k9 : (Rows.pointOwnRow.inPlace == Tryd.pinned.checked.prog.inPlace 5) = true := by kernel_rfl
theorem k10 : (Rows.pointOwnRow.unfollowed == Tryd.pinned.checked.prog.unfollowed 5) = true := by kernel_rfl
theorem k11 : (Rows.pointOwnRow.recurses == Tryd.pinned.checked.prog.recurses 5) = true := by kernel_rfl
theorem k12 : (Rows.pointOwnRow.named == Tryd.pinned.checked.prog.varsNamed 5) = true := by kernel_rfl
theorem k13 : (Rows.pointOwnRow.maps == (Tryd.f5.params.toList ++ Rows.pointOwnSpec.plain.varTypes Tryd.pinned.checked.prog).any (Tryd.pinned.checked.prog.mapsRec ·)) = true := by kernel_rfl
theorem k14 : (Rows.pointOwnRow.ifaces == (Tryd.f5.params.toList ++ Rows.pointOwnSpec.plain.varTypes Tryd.pinned.checked.prog).any (Tryd.pinned.checked.prog.ifacesRec ·)) = true := by kernel_rfl
theorem k15 : (Rows.pointOwnRow.mapsOut == Tryd.pinned.checked.prog.mapsAmong Tryd.f5.resultTypes.toList) = true := by kernel_rfl
theorem k16 : (Rows.pointOwnRow.loops == (Tryd.f5.params.toList ++ Rows.pointOwnSpec.plain.varTypes Tryd.pinned.checked.prog).any (Tryd.pinned.checked.prog.loopsFrom ·)) = true := by kernel_rfl
theorem k17 : (Rows.pointOwnRow.wideKeys == (Tryd.f5.params.toList ++ Rows.pointOwnSpec.plain.varTypes Tryd.pinned.checked.prog ++ Tryd.f5.resultTypes.toList).any (Tryd.pinned.checked.prog.wideKeysFrom ·)) = true := by kernel_rfl
theorem k18 : (Rows.pointOwnSpec.vars.all (Tryd.pinned.checked.prog.varReadable ·)) = true := by kernel_rfl
theorem k19 : (Tryd.f5.resultTypes.all (fun t => Tryd.pinned.checked.prog.readableRec t && decide (t < Tryd.pinned.checked.prog.types.size))) = true := by kernel_rfl
theorem k20 : (Rows.pointOwnRow.ifacesOut == Tryd.f5.resultTypes.toList.any (Tryd.pinned.checked.prog.ifacesRec ·)) = true := by kernel_rfl
theorem k21 : (Rows.pointOwnRow.loopsOut == Tryd.f5.resultTypes.toList.any (Tryd.pinned.checked.prog.loopsFrom ·)) = true := by kernel_rfl
theorem k22 : (Rows.pointOwnRow.plainKeys == Tryd.pinned.checked.prog.plainKeys) = true := by kernel_rfl
theorem k23 : (Rows.pointOwnRow.shortTexts.isNone) = true := by kernel_rfl
theorem k24 : (Tryd.pinned.checked.prog.stopsHeard) = true := by kernel_rfl
theorem k25 : (Tryd.pinned.checked.prog.mayEnter) = true := by kernel_rfl
theorem k26 : (Rows.pointOwnRow.lifted == Tryd.pinned.checked.prog.liftsFinal) = true := by kernel_rfl
theorem k27 : (Tryd.pinned.checked.prog.make == some Rows.pointOwnRow.make) = true := by kernel_rfl
theorem k28 : (Rows.pointOwnRow.kinds == (if Rows.pointOwnRow.domain.isEmpty then [] else Tryd.f5.params.toList.map fun t => match Tryd.pinned.checked.prog.underlying t with | some (.int k) => some k | _ => none)) = true := by kernel_rfl
theorem k29 : (Rows.pointOwnRow.pinned == Rows.pointOwnRow.pinnedBy) = true := by kernel_rfl
theorem k30 : (Rows.pointOwnRow.veiled == (Tryd.f5.params.toList ++ Rows.pointOwnSpec.plain.varTypes Tryd.pinned.checked.prog ++ Tryd.f5.resultTypes.toList).any (Tryd.pinned.checked.prog.veiledRec ·)) = true := by kernel_rfl
theorem k31 : (Rows.pointOwnRow.veiledFits Tryd.pinned.checked.prog Tryd.f5.params.toList (Tryd.f5.params.toList ++ Rows.pointOwnSpec.plain.varTypes Tryd.pinned.checked.prog ++ Tryd.f5.resultTypes.toList)) = true := by kernel_rfl
theorem both {a b : Bool} (h1 : a = true) (h2 : b = true) : (a && b) = true := by rw [h1, h2]; rfl
set_option maxRecDepth 100000 in
theorem closed : joinedFacts Tryd.pinned.checked.prog 5 Tryd.f5 Rows.pointOwnSpec Rows.pointOwnRow = true := (both (both (both (both (both (both (both (both (both (both (both (both (both (both (both (both (both (both (both (both (both (both (both (both (both (both (both (both (both (both (both k0 k1) k2) k3) k4) k5) k6) k7) k8) k9) k10) k11) k12) k13) k14) k15) k16) k17) k18) k19) k20) k21) k22) k23) k24) k25) k26) k27) k28) k29) k30) k31)

end Go.Proofs.YthlfgpnabcplnaaDoor.pointOwn
