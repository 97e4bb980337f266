/-
  DERIVED. GIVEN WITH THE SEED: THE CARDS: each row of YthlfgpnabcplnaaDoorRows.lean that lists a variable, with what it lists TIED to the program's text (the seventh form; the later family's looks); each row that meets fmt, with fmt's text TOLD by the authors' own Lean function (tested against real Go, not proved from fmt's source: count such statements apart). THE CARD IS WHAT COUNTS. Prove the row's statement (the work); the ties are given (YthlfgpnabcplnaaDoorTie.lean); close each card by the builder's one call (the guide's Derived/Test/ToyasCard.lean, 'card_holds'). Laid BY PROGRAM, IN A SANDBOX (cutbox-door.mjs). By AI agents, Wed Nov 11 2026. No macro, syntax, notation, axiom, sorry.
-/
import Derived.Test.YthlfgpnabcplnaaDoorRows
import GoSem.ClaimSeven
namespace Go.Proofs.YthlfgpnabcplnaaDoor
namespace Rows

/-- THE TIED CARD OF 'undercroftlaw17.PointBack'. -/
def pointBackCard : Claim7 := { stood := { row := pointBackRow, standIns := [], harness := (true, "0e49fb5372178897d3389e88749925f9ad1721ead14882120b726363a2e9874f"), looks := true }, kinds := [], alts := [], laidByText := true, laidKinds := [.handle], laidTests := true, laidLooks := .later }
def PointBackCardSaid : Prop := Claim7.holds Tryd.pinned (.plain (OpenSpec.ofChange pointBackSpec)) pointBackCard

/-- THE TIED CARD OF 'undercroftlaw17.PointTurns'. -/
def pointTurnsCard : Claim7 := { stood := { row := pointTurnsRow, standIns := [], harness := (true, "0e49fb5372178897d3389e88749925f9ad1721ead14882120b726363a2e9874f"), looks := true }, kinds := [], alts := [], laidByText := true, laidKinds := [.handle], laidTests := true, laidLooks := .later }
def PointTurnsCardSaid : Prop := Claim7.holds Tryd.pinned (.plain (OpenSpec.ofChange pointTurnsSpec)) pointTurnsCard

/-- THE TIED CARD OF 'undercroftlaw17.PointOwn'. -/
def pointOwnCard : Claim7 := { stood := { row := pointOwnRow, standIns := [], harness := (true, "0e49fb5372178897d3389e88749925f9ad1721ead14882120b726363a2e9874f"), looks := true }, kinds := [], alts := [], laidByText := true, laidKinds := [.handle], laidTests := true, laidLooks := .later }
def PointOwnCardSaid : Prop := Claim7.holds Tryd.pinned (.plain (OpenSpec.ofChange pointOwnSpec)) pointOwnCard

/-- THE SECOND FORM's CARD OF 'undercroftlaw17.PointBack'. -/
def pointBackUptoCard : Claim7 := { stood := { row := pointBackUptoRow, standIns := [], harness := (true, "0e49fb5372178897d3389e88749925f9ad1721ead14882120b726363a2e9874f"), looks := true }, kinds := [], alts := [], laidByText := true, laidKinds := [.handle], laidTests := true, laidLooks := .later }
def PointBackUptoCardSaid : Prop := Claim7.holds Tryd.pinned (.plain (OpenSpec.upto pointBackSpec)) pointBackUptoCard

/-- THE SECOND FORM's CARD OF 'undercroftlaw17.PointTurns'. -/
def pointTurnsUptoCard : Claim7 := { stood := { row := pointTurnsUptoRow, standIns := [], harness := (true, "0e49fb5372178897d3389e88749925f9ad1721ead14882120b726363a2e9874f"), looks := true }, kinds := [], alts := [], laidByText := true, laidKinds := [.handle], laidTests := true, laidLooks := .later }
def PointTurnsUptoCardSaid : Prop := Claim7.holds Tryd.pinned (.plain (OpenSpec.upto pointTurnsSpec)) pointTurnsUptoCard

/-- THE SECOND FORM's CARD OF 'undercroftlaw17.PointOwn'. -/
def pointOwnUptoCard : Claim7 := { stood := { row := pointOwnUptoRow, standIns := [], harness := (true, "0e49fb5372178897d3389e88749925f9ad1721ead14882120b726363a2e9874f"), looks := true }, kinds := [], alts := [], laidByText := true, laidKinds := [.handle], laidTests := true, laidLooks := .later }
def PointOwnUptoCardSaid : Prop := Claim7.holds Tryd.pinned (.plain (OpenSpec.upto pointOwnSpec)) pointOwnUptoCard
end Rows
end Go.Proofs.YthlfgpnabcplnaaDoor
