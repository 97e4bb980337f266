/-
  DERIVED. GIVEN WITH THE SEED: THE CARDS: each row of YtkcnephbaffmbabGreatDoorRows.lean that lists a variable, with what it lists TIED to the program's text (the seventh form; the later family's looks); each row that meets fmt, with fmt's text TOLD by the authors' own Lean function (tested against real Go, not proved from fmt's source: count such statements apart). THE CARD IS WHAT COUNTS. Prove the row's statement (the work); the ties are given (YtkcnephbaffmbabGreatDoorTie.lean); close each card by the builder's one call (the guide's Derived/Test/ToyasCard.lean, 'card_holds'). Laid BY PROGRAM, IN A SANDBOX (cutbox-door.mjs). By AI agents, Wed Nov 11 2026. No macro, syntax, notation, axiom, sorry.
-/
import Derived.Test.YtkcnephbaffmbabGreatDoorRows
import GoSem.ClaimSeven
namespace Go.Proofs.YtkcnephbaffmbabGreatDoor
namespace Rows

/-- THE TIED CARD OF 'undercroftlaw10.FsLinks'. -/
def fsLinksCard : Claim7 := { stood := { row := fsLinksRow, standIns := [], harness := (true, "ed4c9b2dc495d729729e36f9e8695cf5fe794bec94a81fda460576c6b9cec8c3"), looks := true }, kinds := [], alts := [], laidByText := true, laidKinds := [.handle], laidTests := true, laidLooks := .later }
def FsLinksCardSaid : Prop := Claim7.holds Tryz.pinned (.plain (OpenSpec.ofChange fsLinksSpec)) fsLinksCard

/-- THE TIED CARD OF 'undercroftlaw10.FsOwn'. -/
def fsOwnCard : Claim7 := { stood := { row := fsOwnRow, standIns := [], harness := (true, "ed4c9b2dc495d729729e36f9e8695cf5fe794bec94a81fda460576c6b9cec8c3"), looks := true }, kinds := [], alts := [], laidByText := true, laidKinds := [.handle], laidTests := true, laidLooks := .later }
def FsOwnCardSaid : Prop := Claim7.holds Tryz.pinned (.plain (OpenSpec.ofChange fsOwnSpec)) fsOwnCard

/-- THE TIED CARD OF 'undercroftlaw10.FsLists'. -/
def fsListsCard : Claim7 := { stood := { row := fsListsRow, standIns := [], harness := (true, "ed4c9b2dc495d729729e36f9e8695cf5fe794bec94a81fda460576c6b9cec8c3"), looks := true }, kinds := [], alts := [], laidByText := true, laidKinds := [.handle], laidTests := true, laidLooks := .later }
def FsListsCardSaid : Prop := Claim7.holds Tryz.pinned (.plain (OpenSpec.ofChange fsListsSpec)) fsListsCard

/-- THE SECOND FORM's CARD OF 'undercroftlaw10.FsLinks'. -/
def fsLinksUptoCard : Claim7 := { stood := { row := fsLinksUptoRow, standIns := [], harness := (true, "ed4c9b2dc495d729729e36f9e8695cf5fe794bec94a81fda460576c6b9cec8c3"), looks := true }, kinds := [], alts := [], laidByText := true, laidKinds := [.handle], laidTests := true, laidLooks := .later }
def FsLinksUptoCardSaid : Prop := Claim7.holds Tryz.pinned (.plain (OpenSpec.upto fsLinksSpec)) fsLinksUptoCard

/-- THE SECOND FORM's CARD OF 'undercroftlaw10.FsOwn'. -/
def fsOwnUptoCard : Claim7 := { stood := { row := fsOwnUptoRow, standIns := [], harness := (true, "ed4c9b2dc495d729729e36f9e8695cf5fe794bec94a81fda460576c6b9cec8c3"), looks := true }, kinds := [], alts := [], laidByText := true, laidKinds := [.handle], laidTests := true, laidLooks := .later }
def FsOwnUptoCardSaid : Prop := Claim7.holds Tryz.pinned (.plain (OpenSpec.upto fsOwnSpec)) fsOwnUptoCard

/-- THE SECOND FORM's CARD OF 'undercroftlaw10.FsLists'. -/
def fsListsUptoCard : Claim7 := { stood := { row := fsListsUptoRow, standIns := [], harness := (true, "ed4c9b2dc495d729729e36f9e8695cf5fe794bec94a81fda460576c6b9cec8c3"), looks := true }, kinds := [], alts := [], laidByText := true, laidKinds := [.handle], laidTests := true, laidLooks := .later }
def FsListsUptoCardSaid : Prop := Claim7.holds Tryz.pinned (.plain (OpenSpec.upto fsListsSpec)) fsListsUptoCard
end Rows
end Go.Proofs.YtkcnephbaffmbabGreatDoor
