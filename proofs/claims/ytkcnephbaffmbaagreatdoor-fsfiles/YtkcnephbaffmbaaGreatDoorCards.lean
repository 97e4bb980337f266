/-
  DERIVED. GIVEN WITH THE SEED: THE CARDS: each row of YtkcnephbaffmbaaGreatDoorRows.lean that lists a variable, with what it lists TIED to the program's text (the seventh form; the later family's looks); each row that meets fmt, with fmt's text TOLD by the authors' own Lean function (tested against real Go, not proved from fmt's source: count such statements apart). THE CARD IS WHAT COUNTS. Prove the row's statement (the work); the ties are given (YtkcnephbaffmbaaGreatDoorTie.lean); close each card by the builder's one call (the guide's Derived/Test/ToyasCard.lean, 'card_holds'). Laid BY PROGRAM, IN A SANDBOX (cutbox-door.mjs). By AI agents, Wed Nov 11 2026. No macro, syntax, notation, axiom, sorry.
-/
import Derived.Test.YtkcnephbaffmbaaGreatDoorRows
import GoSem.ClaimSeven
namespace Go.Proofs.YtkcnephbaffmbaaGreatDoor
namespace Rows

/-- THE TIED CARD OF 'undercroftlaw10.FsMakes'. -/
def fsMakesCard : Claim7 := { stood := { row := fsMakesRow, standIns := [], harness := (true, "fe4ddefbf97bf10a9883bee4e0a90e84f7857cff992c12068d8b1ec5b22eb66e"), looks := true }, kinds := [], alts := [], laidByText := true, laidKinds := [.handle], laidTests := true, laidLooks := .later }
def FsMakesCardSaid : Prop := Claim7.holds Tryz.pinned (.plain (OpenSpec.ofChange fsMakesSpec)) fsMakesCard

/-- THE TIED CARD OF 'undercroftlaw10.FsNames'. -/
def fsNamesCard : Claim7 := { stood := { row := fsNamesRow, standIns := [], harness := (true, "fe4ddefbf97bf10a9883bee4e0a90e84f7857cff992c12068d8b1ec5b22eb66e"), looks := true }, kinds := [], alts := [], laidByText := true, laidKinds := [.handle], laidTests := true, laidLooks := .later }
def FsNamesCardSaid : Prop := Claim7.holds Tryz.pinned (.plain (OpenSpec.ofChange fsNamesSpec)) fsNamesCard

/-- THE TIED CARD OF 'undercroftlaw10.FsFiles'. -/
def fsFilesCard : Claim7 := { stood := { row := fsFilesRow, standIns := [], harness := (true, "fe4ddefbf97bf10a9883bee4e0a90e84f7857cff992c12068d8b1ec5b22eb66e"), looks := true }, kinds := [], alts := [], laidByText := true, laidKinds := [.handle], laidTests := true, laidLooks := .later }
def FsFilesCardSaid : Prop := Claim7.holds Tryz.pinned (.plain (OpenSpec.ofChange fsFilesSpec)) fsFilesCard

/-- THE TIED CARD OF 'undercroftlaw10.FsKeeps'. -/
def fsKeepsCard : Claim7 := { stood := { row := fsKeepsRow, standIns := [], harness := (true, "fe4ddefbf97bf10a9883bee4e0a90e84f7857cff992c12068d8b1ec5b22eb66e"), looks := true }, kinds := [], alts := [], laidByText := true, laidKinds := [.handle], laidTests := true, laidLooks := .later }
def FsKeepsCardSaid : Prop := Claim7.holds Tryz.pinned (.plain (OpenSpec.ofChange fsKeepsSpec)) fsKeepsCard

/-- THE TIED CARD OF 'undercroftlaw10.FsUndone'. -/
def fsUndoneCard : Claim7 := { stood := { row := fsUndoneRow, standIns := [], harness := (true, "fe4ddefbf97bf10a9883bee4e0a90e84f7857cff992c12068d8b1ec5b22eb66e"), looks := true }, kinds := [], alts := [], laidByText := true, laidKinds := [.handle], laidTests := true, laidLooks := .later }
def FsUndoneCardSaid : Prop := Claim7.holds Tryz.pinned (.plain (OpenSpec.ofChange fsUndoneSpec)) fsUndoneCard

/-- THE TIED CARD OF 'undercroftlaw10.FsThere'. -/
def fsThereCard : Claim7 := { stood := { row := fsThereRow, standIns := [], harness := (true, "fe4ddefbf97bf10a9883bee4e0a90e84f7857cff992c12068d8b1ec5b22eb66e"), looks := true }, kinds := [], alts := [], laidByText := true, laidKinds := [.handle], laidTests := true, laidLooks := .later }
def FsThereCardSaid : Prop := Claim7.holds Tryz.pinned (.plain (OpenSpec.ofChange fsThereSpec)) fsThereCard

/-- THE SECOND FORM's CARD OF 'undercroftlaw10.FsMakes'. -/
def fsMakesUptoCard : Claim7 := { stood := { row := fsMakesUptoRow, standIns := [], harness := (true, "fe4ddefbf97bf10a9883bee4e0a90e84f7857cff992c12068d8b1ec5b22eb66e"), looks := true }, kinds := [], alts := [], laidByText := true, laidKinds := [.handle], laidTests := true, laidLooks := .later }
def FsMakesUptoCardSaid : Prop := Claim7.holds Tryz.pinned (.plain (OpenSpec.upto fsMakesSpec)) fsMakesUptoCard

/-- THE SECOND FORM's CARD OF 'undercroftlaw10.FsNames'. -/
def fsNamesUptoCard : Claim7 := { stood := { row := fsNamesUptoRow, standIns := [], harness := (true, "fe4ddefbf97bf10a9883bee4e0a90e84f7857cff992c12068d8b1ec5b22eb66e"), looks := true }, kinds := [], alts := [], laidByText := true, laidKinds := [.handle], laidTests := true, laidLooks := .later }
def FsNamesUptoCardSaid : Prop := Claim7.holds Tryz.pinned (.plain (OpenSpec.upto fsNamesSpec)) fsNamesUptoCard

/-- THE SECOND FORM's CARD OF 'undercroftlaw10.FsFiles'. -/
def fsFilesUptoCard : Claim7 := { stood := { row := fsFilesUptoRow, standIns := [], harness := (true, "fe4ddefbf97bf10a9883bee4e0a90e84f7857cff992c12068d8b1ec5b22eb66e"), looks := true }, kinds := [], alts := [], laidByText := true, laidKinds := [.handle], laidTests := true, laidLooks := .later }
def FsFilesUptoCardSaid : Prop := Claim7.holds Tryz.pinned (.plain (OpenSpec.upto fsFilesSpec)) fsFilesUptoCard

/-- THE SECOND FORM's CARD OF 'undercroftlaw10.FsKeeps'. -/
def fsKeepsUptoCard : Claim7 := { stood := { row := fsKeepsUptoRow, standIns := [], harness := (true, "fe4ddefbf97bf10a9883bee4e0a90e84f7857cff992c12068d8b1ec5b22eb66e"), looks := true }, kinds := [], alts := [], laidByText := true, laidKinds := [.handle], laidTests := true, laidLooks := .later }
def FsKeepsUptoCardSaid : Prop := Claim7.holds Tryz.pinned (.plain (OpenSpec.upto fsKeepsSpec)) fsKeepsUptoCard

/-- THE SECOND FORM's CARD OF 'undercroftlaw10.FsUndone'. -/
def fsUndoneUptoCard : Claim7 := { stood := { row := fsUndoneUptoRow, standIns := [], harness := (true, "fe4ddefbf97bf10a9883bee4e0a90e84f7857cff992c12068d8b1ec5b22eb66e"), looks := true }, kinds := [], alts := [], laidByText := true, laidKinds := [.handle], laidTests := true, laidLooks := .later }
def FsUndoneUptoCardSaid : Prop := Claim7.holds Tryz.pinned (.plain (OpenSpec.upto fsUndoneSpec)) fsUndoneUptoCard

/-- THE SECOND FORM's CARD OF 'undercroftlaw10.FsThere'. -/
def fsThereUptoCard : Claim7 := { stood := { row := fsThereUptoRow, standIns := [], harness := (true, "fe4ddefbf97bf10a9883bee4e0a90e84f7857cff992c12068d8b1ec5b22eb66e"), looks := true }, kinds := [], alts := [], laidByText := true, laidKinds := [.handle], laidTests := true, laidLooks := .later }
def FsThereUptoCardSaid : Prop := Claim7.holds Tryz.pinned (.plain (OpenSpec.upto fsThereSpec)) fsThereUptoCard
end Rows
end Go.Proofs.YtkcnephbaffmbaaGreatDoor
