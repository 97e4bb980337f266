/-
  The closed facts of the row pointBack, one by one.
-/
import Derived.Test.YthlfgpnabcplnaaDoorTie
import Derived.Test.YthlfgpnabcplnaaDoorCards
import Derived.JoinedCond
import Derived.Deep.DeepHandedRow
import Derived.ChangeMaps5
namespace Go.Proofs.YthlfgpnabcplnaaDoor.pointBack
open Go.ChangeShapes Go.WideShapes Go.ChangeAt Go.ChangeMaps

theorem k0 : (Rows.pointBackRow.wf (OpenSpec.ofChange Rows.pointBackSpec)) = true := by kernel_rfl
theorem k1 : (laidOutB Tryd.pinned.checked.prog) = true := by kernel_rfl
theorem k2 : (mapsRowed Tryd.pinned.checked.prog) = true := by kernel_rfl
theorem k3 : (Tryd.f3.params.all (Tryd.pinned.checked.prog.readableRec ·)) = true := by kernel_rfl
theorem k4 : (namedTie Tryd.pinned.checked.prog Rows.pointBackRow.named Rows.pointBackSpec.vars) = true := by kernel_rfl
theorem k5 : (Rows.pointBackRow.stops == []) = true := by kernel_rfl
theorem k6 : (Tryd.pinned.checked.prog.stops == []) = true := by kernel_rfl
theorem k7 : (Rows.pointBackRow.knobs == []) = true := by kernel_rfl
theorem k8 : (Tryd.pinned.checked.prog.stopKnobs == []) = true := by kernel_rfl
theorem k9 : (Rows.pointBackRow.inPlace == Tryd.pinned.checked.prog.inPlace 3) = true := by kernel_rfl
theorem k10 : (Rows.pointBackRow.unfollowed == Tryd.pinned.checked.prog.unfollowed 3) = true := by kernel_rfl
theorem k11 : (Rows.pointBackRow.recurses == Tryd.pinned.checked.prog.recurses 3) = true := by kernel_rfl
theorem k12 : (Rows.pointBackRow.named == Tryd.pinned.checked.prog.varsNamed 3) = true := by kernel_rfl
theorem k13 : (Rows.pointBackRow.maps == (Tryd.f3.params.toList ++ Rows.pointBackSpec.plain.varTypes Tryd.pinned.checked.prog).any (Tryd.pinned.checked.prog.mapsRec ·)) = true := by kernel_rfl
theorem k14 : (Rows.pointBackRow.ifaces == (Tryd.f3.params.toList ++ Rows.pointBackSpec.plain.varTypes Tryd.pinned.checked.prog).any (Tryd.pinned.checked.prog.ifacesRec ·)) = true := by kernel_rfl
theorem k15 : (Rows.pointBackRow.mapsOut == Tryd.pinned.checked.prog.mapsAmong Tryd.f3.resultTypes.toList) = true := by kernel_rfl
theorem k16 : (Rows.pointBackRow.loops == (Tryd.f3.params.toList ++ Rows.pointBackSpec.plain.varTypes Tryd.pinned.checked.prog).any (Tryd.pinned.checked.prog.loopsFrom ·)) = true := by kernel_rfl
theorem k17 : (Rows.pointBackRow.wideKeys == (Tryd.f3.params.toList ++ Rows.pointBackSpec.plain.varTypes Tryd.pinned.checked.prog ++ Tryd.f3.resultTypes.toList).any (Tryd.pinned.checked.prog.wideKeysFrom ·)) = true := by kernel_rfl
theorem k18 : (Rows.pointBackSpec.vars.all (Tryd.pinned.checked.prog.varReadable ·)) = true := by kernel_rfl
theorem k19 : (Tryd.f3.resultTypes.all (fun t => Tryd.pinned.checked.prog.readableRec t && decide (t < Tryd.pinned.checked.prog.types.size))) = true := by kernel_rfl
theorem k20 : (Rows.pointBackRow.ifacesOut == Tryd.f3.resultTypes.toList.any (Tryd.pinned.checked.prog.ifacesRec ·)) = true := by kernel_rfl
theorem k21 : (Rows.pointBackRow.loopsOut == Tryd.f3.resultTypes.toList.any (Tryd.pinned.checked.prog.loopsFrom ·)) = true := by kernel_rfl
theorem k22 : (Rows.pointBackRow.plainKeys == Tryd.pinned.checked.prog.plainKeys) = true := by kernel_rfl
theorem k23 : (Rows.pointBackRow.shortTexts.isNone) = true := by kernel_rfl
theorem k24 : (Tryd.pinned.checked.prog.stopsHeard) = true := by kernel_rfl
theorem k25 : (Tryd.pinned.checked.prog.mayEnter) = true := by kernel_rfl
theorem k26 : (Rows.pointBackRow.lifted == Tryd.pinned.checked.prog.liftsFinal) = true := by kernel_rfl
theorem k27 : (Tryd.pinned.checked.prog.make == some Rows.pointBackRow.make) = true := by kernel_rfl
theorem k28 : (Rows.pointBackRow.kinds == (if Rows.pointBackRow.domain.isEmpty then [] else Tryd.f3.params.toList.map fun t => match Tryd.pinned.checked.prog.underlying t with | some (.int k) => some k | _ => none)) = true := by kernel_rfl
theorem k29 : (Rows.pointBackRow.pinned == Rows.pointBackRow.pinnedBy) = true := by kernel_rfl
theorem k30 : (Rows.pointBackRow.veiled == (Tryd.f3.params.toList ++ Rows.pointBackSpec.plain.varTypes Tryd.pinned.checked.prog ++ Tryd.f3.resultTypes.toList).any (Tryd.pinned.checked.prog.veiledRec ·)) = true := by kernel_rfl
theorem k31 : (Rows.pointBackRow.veiledFits Tryd.pinned.checked.prog Tryd.f3.params.toList (Tryd.f3.params.toList ++ Rows.pointBackSpec.plain.varTypes Tryd.pinned.checked.prog ++ Tryd.f3.resultTypes.toList)) = true := by kernel_rfl
theorem both {a b : Bool} (h1 : a = true) (h2 : b = true) : (a && b) = true := by rw [h1, h2]; rfl
set_option maxRecDepth 100000 in
theorem closed : joinedFacts Tryd.pinned.checked.prog 3 Tryd.f3 Rows.pointBackSpec Rows.pointBackRow = true := (both (both (both (both (both (both (both (both (both (both (both (both (both (both (both (both (both (both (both (both (both (both (both (both (both (both (both (both (both (both (both k0 k1) k2) k3) k4) k5) k6) k7) k8) k9) k10) k11) k12) k13) k14) k15) k16) k17) k18) k19) k20) k21) k22) k23) k24) k25) k26) k27) k28) k29) k30) k31)

end Go.Proofs.YthlfgpnabcplnaaDoor.pointBack
