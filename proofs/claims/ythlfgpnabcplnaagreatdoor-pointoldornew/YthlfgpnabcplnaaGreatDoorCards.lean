/-
  DERIVED. GIVEN WITH THE SEED: THE CARDS: each row of YthlfgpnabcplnaaGreatDoorRows.lean that lists a variable, with what it lists TIED to the program's text (the seventh form; the later family's looks); each row that meets fmt, with fmt's text TOLD by the authors' own Lean function (tested against real Go, not proved from fmt's source: count such statements apart). THE CARD IS WHAT COUNTS. Prove the row's statement (the work); the ties are given (YthlfgpnabcplnaaGreatDoorTie.lean); close each card by the builder's one call (the guide's Derived/Test/ToyasCard.lean, 'card_holds'). Laid BY PROGRAM, IN A SANDBOX (cutbox-door.mjs). By AI agents, Wed Nov 11 2026. No macro, syntax, notation, axiom, sorry.
-/
import Derived.Test.YthlfgpnabcplnaaGreatDoorRows
import GoSem.ClaimSeven
namespace Go.Proofs.YthlfgpnabcplnaaGreatDoor
namespace Rows

/-- THE TIED CARD OF 'undercroftlaw17.PointTells'. -/
def pointTellsCard : Claim7 := { stood := { row := pointTellsRow, standIns := [], harness := (true, "6ec844e15b9893b11c59052c0c4b4f0e682fa7d07ae8cebffe48e9bb63c8b894"), looks := true }, kinds := [], alts := [], laidByText := true, laidKinds := [.handle], laidTests := true, laidLooks := .later }
def PointTellsCardSaid : Prop := Claim7.holds Tryz.pinned (.plain (OpenSpec.ofChange pointTellsSpec)) pointTellsCard

/-- THE TIED CARD OF 'undercroftlaw17.PointDisks'. -/
def pointDisksCard : Claim7 := { stood := { row := pointDisksRow, standIns := [], harness := (true, "6ec844e15b9893b11c59052c0c4b4f0e682fa7d07ae8cebffe48e9bb63c8b894"), looks := true }, kinds := [], alts := [], laidByText := true, laidKinds := [.handle], laidTests := true, laidLooks := .later }
def PointDisksCardSaid : Prop := Claim7.holds Tryz.pinned (.plain (OpenSpec.ofChange pointDisksSpec)) pointDisksCard

/-- THE TIED CARD OF 'undercroftlaw17.PointOldOrNew'. -/
def pointOldOrNewCard : Claim7 := { stood := { row := pointOldOrNewRow, standIns := [], harness := (true, "6ec844e15b9893b11c59052c0c4b4f0e682fa7d07ae8cebffe48e9bb63c8b894"), looks := true }, kinds := [], alts := [], laidByText := true, laidKinds := [.handle], laidTests := true, laidLooks := .later }
def PointOldOrNewCardSaid : Prop := Claim7.holds Tryz.pinned (.plain (OpenSpec.ofChange pointOldOrNewSpec)) pointOldOrNewCard

/-- THE SECOND FORM's CARD OF 'undercroftlaw17.PointTells'. -/
def pointTellsUptoCard : Claim7 := { stood := { row := pointTellsUptoRow, standIns := [], harness := (true, "6ec844e15b9893b11c59052c0c4b4f0e682fa7d07ae8cebffe48e9bb63c8b894"), looks := true }, kinds := [], alts := [], laidByText := true, laidKinds := [.handle], laidTests := true, laidLooks := .later }
def PointTellsUptoCardSaid : Prop := Claim7.holds Tryz.pinned (.plain (OpenSpec.upto pointTellsSpec)) pointTellsUptoCard

/-- THE SECOND FORM's CARD OF 'undercroftlaw17.PointDisks'. -/
def pointDisksUptoCard : Claim7 := { stood := { row := pointDisksUptoRow, standIns := [], harness := (true, "6ec844e15b9893b11c59052c0c4b4f0e682fa7d07ae8cebffe48e9bb63c8b894"), looks := true }, kinds := [], alts := [], laidByText := true, laidKinds := [.handle], laidTests := true, laidLooks := .later }
def PointDisksUptoCardSaid : Prop := Claim7.holds Tryz.pinned (.plain (OpenSpec.upto pointDisksSpec)) pointDisksUptoCard

/-- THE SECOND FORM's CARD OF 'undercroftlaw17.PointOldOrNew'. -/
def pointOldOrNewUptoCard : Claim7 := { stood := { row := pointOldOrNewUptoRow, standIns := [], harness := (true, "6ec844e15b9893b11c59052c0c4b4f0e682fa7d07ae8cebffe48e9bb63c8b894"), looks := true }, kinds := [], alts := [], laidByText := true, laidKinds := [.handle], laidTests := true, laidLooks := .later }
def PointOldOrNewUptoCardSaid : Prop := Claim7.holds Tryz.pinned (.plain (OpenSpec.upto pointOldOrNewSpec)) pointOldOrNewUptoCard
end Rows
end Go.Proofs.YthlfgpnabcplnaaGreatDoor
