/-
  DERIVED. GIVEN WITH THE SEED: THE CARDS: each row of YtopcefhncildnaaGreatDoorRows.lean that lists a variable, with what it lists TIED to the program's text (the seventh form; the later family's looks); each row that meets fmt, with fmt's text TOLD by the authors' own Lean function (tested against real Go, not proved from fmt's source: count such statements apart). THE CARD IS WHAT COUNTS. Prove the row's statement (the work); the ties are given (YtopcefhncildnaaGreatDoorTie.lean); close each card by the builder's one call (the guide's Derived/Test/ToyasCard.lean, 'card_holds'). Laid BY PROGRAM, IN A SANDBOX (cutbox-door.mjs). By AI agents, Wed Nov 11 2026. No macro, syntax, notation, axiom, sorry.
-/
import Derived.Test.YtopcefhncildnaaGreatDoorRows
import GoSem.ClaimSeven
namespace Go.Proofs.YtopcefhncildnaaGreatDoor
namespace Rows

/-- THE TIED CARD OF 'undercroftlaw10.FsOwn'. -/
def fsOwnCard : Claim7 := { stood := { row := fsOwnRow, standIns := [], harness := (true, "ea0835b7766b01d6fe504dfed3e3367b6b8c7b73720a275696bf3d673d308251"), looks := true }, kinds := [], alts := [], laidByText := true, laidKinds := [.handle], laidTests := true, laidLooks := .later }
def FsOwnCardSaid : Prop := Claim7.holds Tryz.pinned (.plain (OpenSpec.ofChange fsOwnSpec)) fsOwnCard

/-- THE TIED CARD OF 'undercroftlaw11.OpsLook'. -/
def opsLookCard : Claim7 := { stood := { row := opsLookRow, standIns := [], harness := (true, "ea0835b7766b01d6fe504dfed3e3367b6b8c7b73720a275696bf3d673d308251"), looks := true }, kinds := [], alts := [], laidByText := true, laidKinds := [.handle], laidTests := true, laidLooks := .later }
def OpsLookCardSaid : Prop := Claim7.holds Tryz.pinned (.plain (OpenSpec.ofChange opsLookSpec)) opsLookCard

/-- THE TIED CARD OF 'undercroftlaw11.OpsTells'. -/
def opsTellsCard : Claim7 := { stood := { row := opsTellsRow, standIns := [], harness := (true, "ea0835b7766b01d6fe504dfed3e3367b6b8c7b73720a275696bf3d673d308251"), looks := true }, kinds := [], alts := [], laidByText := true, laidKinds := [.handle], laidTests := true, laidLooks := .later }
def OpsTellsCardSaid : Prop := Claim7.holds Tryz.pinned (.plain (OpenSpec.ofChange opsTellsSpec)) opsTellsCard

/-- THE TIED CARD OF 'undercroftlaw11.OpsReplies'. -/
def opsRepliesCard : Claim7 := { stood := { row := opsRepliesRow, standIns := [], harness := (true, "ea0835b7766b01d6fe504dfed3e3367b6b8c7b73720a275696bf3d673d308251"), looks := true }, kinds := [], alts := [], laidByText := true, laidKinds := [.handle], laidTests := true, laidLooks := .later }
def OpsRepliesCardSaid : Prop := Claim7.holds Tryz.pinned (.plain (OpenSpec.ofChange opsRepliesSpec)) opsRepliesCard

/-- THE TIED CARD OF 'undercroftlaw11.OpsBack'. -/
def opsBackCard : Claim7 := { stood := { row := opsBackRow, standIns := [], harness := (true, "ea0835b7766b01d6fe504dfed3e3367b6b8c7b73720a275696bf3d673d308251"), looks := true }, kinds := [], alts := [], laidByText := true, laidKinds := [.handle], laidTests := true, laidLooks := .later }
def OpsBackCardSaid : Prop := Claim7.holds Tryz.pinned (.plain (OpenSpec.ofChange opsBackSpec)) opsBackCard

/-- THE TIED CARD OF 'undercrofttop.TopLog'. -/
def topLogCard : Claim7 := { stood := { row := topLogRow, standIns := [], harness := (true, "ea0835b7766b01d6fe504dfed3e3367b6b8c7b73720a275696bf3d673d308251"), looks := true }, kinds := [], alts := [], laidByText := true, laidKinds := [.handle], laidTests := true, laidLooks := .later }
def TopLogCardSaid : Prop := Claim7.holds Tryz.pinned (.plain (OpenSpec.ofChange topLogSpec)) topLogCard

/-- THE SECOND FORM's CARD OF 'undercroftlaw10.FsOwn'. -/
def fsOwnUptoCard : Claim7 := { stood := { row := fsOwnUptoRow, standIns := [], harness := (true, "ea0835b7766b01d6fe504dfed3e3367b6b8c7b73720a275696bf3d673d308251"), looks := true }, kinds := [], alts := [], laidByText := true, laidKinds := [.handle], laidTests := true, laidLooks := .later }
def FsOwnUptoCardSaid : Prop := Claim7.holds Tryz.pinned (.plain (OpenSpec.upto fsOwnSpec)) fsOwnUptoCard

/-- THE SECOND FORM's CARD OF 'undercroftlaw11.OpsLook'. -/
def opsLookUptoCard : Claim7 := { stood := { row := opsLookUptoRow, standIns := [], harness := (true, "ea0835b7766b01d6fe504dfed3e3367b6b8c7b73720a275696bf3d673d308251"), looks := true }, kinds := [], alts := [], laidByText := true, laidKinds := [.handle], laidTests := true, laidLooks := .later }
def OpsLookUptoCardSaid : Prop := Claim7.holds Tryz.pinned (.plain (OpenSpec.upto opsLookSpec)) opsLookUptoCard

/-- THE SECOND FORM's CARD OF 'undercroftlaw11.OpsTells'. -/
def opsTellsUptoCard : Claim7 := { stood := { row := opsTellsUptoRow, standIns := [], harness := (true, "ea0835b7766b01d6fe504dfed3e3367b6b8c7b73720a275696bf3d673d308251"), looks := true }, kinds := [], alts := [], laidByText := true, laidKinds := [.handle], laidTests := true, laidLooks := .later }
def OpsTellsUptoCardSaid : Prop := Claim7.holds Tryz.pinned (.plain (OpenSpec.upto opsTellsSpec)) opsTellsUptoCard

/-- THE SECOND FORM's CARD OF 'undercroftlaw11.OpsReplies'. -/
def opsRepliesUptoCard : Claim7 := { stood := { row := opsRepliesUptoRow, standIns := [], harness := (true, "ea0835b7766b01d6fe504dfed3e3367b6b8c7b73720a275696bf3d673d308251"), looks := true }, kinds := [], alts := [], laidByText := true, laidKinds := [.handle], laidTests := true, laidLooks := .later }
def OpsRepliesUptoCardSaid : Prop := Claim7.holds Tryz.pinned (.plain (OpenSpec.upto opsRepliesSpec)) opsRepliesUptoCard

/-- THE SECOND FORM's CARD OF 'undercroftlaw11.OpsBack'. -/
def opsBackUptoCard : Claim7 := { stood := { row := opsBackUptoRow, standIns := [], harness := (true, "ea0835b7766b01d6fe504dfed3e3367b6b8c7b73720a275696bf3d673d308251"), looks := true }, kinds := [], alts := [], laidByText := true, laidKinds := [.handle], laidTests := true, laidLooks := .later }
def OpsBackUptoCardSaid : Prop := Claim7.holds Tryz.pinned (.plain (OpenSpec.upto opsBackSpec)) opsBackUptoCard

/-- THE SECOND FORM's CARD OF 'undercrofttop.TopLog'. -/
def topLogUptoCard : Claim7 := { stood := { row := topLogUptoRow, standIns := [], harness := (true, "ea0835b7766b01d6fe504dfed3e3367b6b8c7b73720a275696bf3d673d308251"), looks := true }, kinds := [], alts := [], laidByText := true, laidKinds := [.handle], laidTests := true, laidLooks := .later }
def TopLogUptoCardSaid : Prop := Claim7.holds Tryz.pinned (.plain (OpenSpec.upto topLogSpec)) topLogUptoCard
end Rows
end Go.Proofs.YtopcefhncildnaaGreatDoor
