/-
  No cell of these rows narrows 'for every input' (looked for: loops, veiled, ifaces, maps, wideKeys, modest, calm, conditions, laid).
  DERIVED. THE GIVEN ROWS OF THIS SEAT. 6 by the template 'for every input the law returns true; each argument reads behind the call as it read before'; 0 by the template 'total and deterministic' (their statements: YtmjgamokddedkaaTotals.lean).
  GIVEN WITH THE SEED: the statements are not yours to turn. If you find one false, say at which input.
  Laid BY PROGRAM, IN A SANDBOX (cutbox-rows.mjs): the forced cells as the released guide's own fill.sh prints them over the translation c05416ed71554a65… (all of the seat's roots in one cut). By AI agents, Wed Nov 11 2026. No macro, syntax, notation, axiom, sorry.
-/
import Derived.Test.YtmjgamokddedkaaChecked
import GoSem.Claim
import GoSem.ClaimJoined
import GoSem.ClaimMapViews
import Derived.JoinedTies
import Derived.KernelRfl
namespace Go.Proofs.Ytmjgamokddedkaa
/- THE CELL 'sum', in the pinned program and in every row, IS THE sha256 OF THE DUMP (.gsa) THAT YtmjgamokddedkaaProg.lean LOADS. Nothing in Lean hashes anything: it is a label: what it is worth is what the hold of that sum in a sandbox is worth. -/
noncomputable def Try.pinned : Pinned := { name := "ytmjgamokddedkaa", sum := "c05416ed71554a659900543cc58217e3923cb80adf3eea1c3b60396d4ab348a3", checked := Try.checked }
namespace Rows
def none {H : Type} : Left H := { results := [], args := [] }

/-- 'undercroftlaw13.SegmentTells': WHATEVER THE INPUT: true; the input reads as it did. -/
def segmentTellsSpec : ChangeSpec := { name := "segmentTells", fn := fun _ => fun
  | [d1, d2] => { results := [.lit (.bool true)], args := [d1, d2] }
  | _ => none }
def segmentTellsRow : OpenClaim := { program := "ytmjgamokddedkaa", sum := "c05416ed71554a659900543cc58217e3923cb80adf3eea1c3b60396d4ab348a3", func := "undercroft/undercroftlaw13.SegmentTells", spec := "segmentTells", unfollowed := true, recurses := true, apart := false }
def SegmentTellsSaid : Prop := segmentTellsRow.holds Try.pinned (OpenSpec.ofChange segmentTellsSpec)

/-- ITS FALSE NEIGHBOUR: 'it returns false'. Refute it at one input. -/
def segmentTellsWrong : ChangeSpec := { name := "segmentTells", fn := fun _ => fun
  | [d1, d2] => { results := [.lit (.bool false)], args := [d1, d2] }
  | _ => none }
def SegmentTellsWrongFalsely : Prop := segmentTellsRow.holds Try.pinned (OpenSpec.ofChange segmentTellsWrong)

/-- 'undercroftlaw13.SegmentBack': WHATEVER THE INPUT: true; the input reads as it did. -/
def segmentBackSpec : ChangeSpec := { name := "segmentBack", fn := fun _ => fun
  | [d1, d2] => { results := [.lit (.bool true)], args := [d1, d2] }
  | _ => none }
def segmentBackRow : OpenClaim := { program := "ytmjgamokddedkaa", sum := "c05416ed71554a659900543cc58217e3923cb80adf3eea1c3b60396d4ab348a3", func := "undercroft/undercroftlaw13.SegmentBack", spec := "segmentBack", unfollowed := true, recurses := true, apart := false }
def SegmentBackSaid : Prop := segmentBackRow.holds Try.pinned (OpenSpec.ofChange segmentBackSpec)

/-- ITS FALSE NEIGHBOUR: 'it returns false'. Refute it at one input. -/
def segmentBackWrong : ChangeSpec := { name := "segmentBack", fn := fun _ => fun
  | [d1, d2] => { results := [.lit (.bool false)], args := [d1, d2] }
  | _ => none }
def SegmentBackWrongFalsely : Prop := segmentBackRow.holds Try.pinned (OpenSpec.ofChange segmentBackWrong)

/-- 'undercroftlaw13.SegmentRot': WHATEVER THE INPUT: true; the input reads as it did. -/
def segmentRotSpec : ChangeSpec := { name := "segmentRot", fn := fun _ => fun
  | [d1, d2, d3] => { results := [.lit (.bool true)], args := [d1, d2, d3] }
  | _ => none }
def segmentRotRow : OpenClaim := { program := "ytmjgamokddedkaa", sum := "c05416ed71554a659900543cc58217e3923cb80adf3eea1c3b60396d4ab348a3", func := "undercroft/undercroftlaw13.SegmentRot", spec := "segmentRot", unfollowed := true, recurses := true, apart := false }
def SegmentRotSaid : Prop := segmentRotRow.holds Try.pinned (OpenSpec.ofChange segmentRotSpec)

/-- ITS FALSE NEIGHBOUR: 'it returns false'. Refute it at one input. -/
def segmentRotWrong : ChangeSpec := { name := "segmentRot", fn := fun _ => fun
  | [d1, d2, d3] => { results := [.lit (.bool false)], args := [d1, d2, d3] }
  | _ => none }
def SegmentRotWrongFalsely : Prop := segmentRotRow.holds Try.pinned (OpenSpec.ofChange segmentRotWrong)

/-- 'undercroftlaw13.SegmentOwners': WHATEVER THE INPUT: true; the input reads as it did. -/
def segmentOwnersSpec : ChangeSpec := { name := "segmentOwners", fn := fun _ => fun
  | [d] => { results := [.lit (.bool true)], args := [d] }
  | _ => none }
def segmentOwnersRow : OpenClaim := { program := "ytmjgamokddedkaa", sum := "c05416ed71554a659900543cc58217e3923cb80adf3eea1c3b60396d4ab348a3", func := "undercroft/undercroftlaw13.SegmentOwners", spec := "segmentOwners", unfollowed := true, recurses := true, apart := false }
def SegmentOwnersSaid : Prop := segmentOwnersRow.holds Try.pinned (OpenSpec.ofChange segmentOwnersSpec)

/-- ITS FALSE NEIGHBOUR: 'it returns false'. Refute it at one input. -/
def segmentOwnersWrong : ChangeSpec := { name := "segmentOwners", fn := fun _ => fun
  | [d] => { results := [.lit (.bool false)], args := [d] }
  | _ => none }
def SegmentOwnersWrongFalsely : Prop := segmentOwnersRow.holds Try.pinned (OpenSpec.ofChange segmentOwnersWrong)

/-- 'undercroftlaw13.SegmentOwn': WHATEVER THE INPUT: true; the input reads as it did. -/
def segmentOwnSpec : ChangeSpec := { name := "segmentOwn", fn := fun _ => fun
  | [d] => { results := [.lit (.bool true)], args := [d] }
  | _ => none }
def segmentOwnRow : OpenClaim := { program := "ytmjgamokddedkaa", sum := "c05416ed71554a659900543cc58217e3923cb80adf3eea1c3b60396d4ab348a3", func := "undercroft/undercroftlaw13.SegmentOwn", spec := "segmentOwn", unfollowed := true, recurses := true, apart := false }
def SegmentOwnSaid : Prop := segmentOwnRow.holds Try.pinned (OpenSpec.ofChange segmentOwnSpec)

/-- ITS FALSE NEIGHBOUR: 'it returns false'. Refute it at one input. -/
def segmentOwnWrong : ChangeSpec := { name := "segmentOwn", fn := fun _ => fun
  | [d] => { results := [.lit (.bool false)], args := [d] }
  | _ => none }
def SegmentOwnWrongFalsely : Prop := segmentOwnRow.holds Try.pinned (OpenSpec.ofChange segmentOwnWrong)

/-- 'undercroftlaw13.SegmentHolds': WHATEVER THE INPUT: true; the input reads as it did. -/
def segmentHoldsSpec : ChangeSpec := { name := "segmentHolds", fn := fun _ => fun
  | [d1, d2] => { results := [.lit (.bool true)], args := [d1, d2] }
  | _ => none }
def segmentHoldsRow : OpenClaim := { program := "ytmjgamokddedkaa", sum := "c05416ed71554a659900543cc58217e3923cb80adf3eea1c3b60396d4ab348a3", func := "undercroft/undercroftlaw13.SegmentHolds", spec := "segmentHolds", unfollowed := true, recurses := true, apart := false }
def SegmentHoldsSaid : Prop := segmentHoldsRow.holds Try.pinned (OpenSpec.ofChange segmentHoldsSpec)

/-- ITS FALSE NEIGHBOUR: 'it returns false'. Refute it at one input. -/
def segmentHoldsWrong : ChangeSpec := { name := "segmentHolds", fn := fun _ => fun
  | [d1, d2] => { results := [.lit (.bool false)], args := [d1, d2] }
  | _ => none }
def SegmentHoldsWrongFalsely : Prop := segmentHoldsRow.holds Try.pinned (OpenSpec.ofChange segmentHoldsWrong)

/- THE SECOND FORM. 'bulk': how many values and letters a reading holds, each counted each time it is reached (what is shared counts as often as it is met; a slice's spare places count too). A statement '..UptoSaid' is the law's where the arguments, and the package variables that the reading takes, are together of bulk at most 1048576: NARROWER than '..Said'. Prove '..Said' where nothing that the law and all that it calls make is longer than what came in: it says more and counts as full. Else prove '..UptoSaid'. A law counts once. -/
mutual
def uptoBulk {H : Type} : DataW H → Nat
  | .lit (.string bytes) => bytes.length + 1
  | .lit _ => 1
  | .nil => 1
  | .ptr d => uptoBulk d + 1
  | .slice elems spare => uptoBulkAll elems + uptoBulkAll spare + 1
  | .agg parts => uptoBulkAll parts + 1
  | .iface _ d => uptoBulk d + 1
  | .map entries => uptoBulkEntries entries + 1
  | .held _ => 1
def uptoBulkAll {H : Type} : List (DataW H) → Nat
  | [] => 0
  | d :: r => uptoBulk d + uptoBulkAll r
def uptoBulkEntries {H : Type} : List (Lit × DataW H) → Nat
  | [] => 0
  | x :: r => uptoBulkEntry x + uptoBulkEntries r
def uptoBulkEntry {H : Type} : Lit × DataW H → Nat
  | (.string bytes, d) => bytes.length + uptoBulk d + 1
  | (_, d) => uptoBulk d + 1
 end
def uptoSmall : (H : Type) → List (DataW H) → Bool := fun _ ds => decide (uptoBulkAll ds ≤ 1048576)
def OpenSpec.upto (s : _root_.Go.ChangeSpec) : _root_.Go.OpenSpec := { _root_.Go.OpenSpec.ofChange s with cond := some uptoSmall }

/-- 'undercroftlaw13.SegmentTells', WHERE WHAT IT READS IS OF BULK AT MOST 1048576: true; the input reads as it did. -/
def segmentTellsUptoRow : OpenClaim := { program := "ytmjgamokddedkaa", sum := "c05416ed71554a659900543cc58217e3923cb80adf3eea1c3b60396d4ab348a3", func := "undercroft/undercroftlaw13.SegmentTells", spec := "segmentTells", unfollowed := true, recurses := true, apart := false, narrowed := true }
def SegmentTellsUptoSaid : Prop := segmentTellsUptoRow.holds Try.pinned (OpenSpec.upto segmentTellsSpec)

/-- 'undercroftlaw13.SegmentBack', WHERE WHAT IT READS IS OF BULK AT MOST 1048576: true; the input reads as it did. -/
def segmentBackUptoRow : OpenClaim := { program := "ytmjgamokddedkaa", sum := "c05416ed71554a659900543cc58217e3923cb80adf3eea1c3b60396d4ab348a3", func := "undercroft/undercroftlaw13.SegmentBack", spec := "segmentBack", unfollowed := true, recurses := true, apart := false, narrowed := true }
def SegmentBackUptoSaid : Prop := segmentBackUptoRow.holds Try.pinned (OpenSpec.upto segmentBackSpec)

/-- 'undercroftlaw13.SegmentRot', WHERE WHAT IT READS IS OF BULK AT MOST 1048576: true; the input reads as it did. -/
def segmentRotUptoRow : OpenClaim := { program := "ytmjgamokddedkaa", sum := "c05416ed71554a659900543cc58217e3923cb80adf3eea1c3b60396d4ab348a3", func := "undercroft/undercroftlaw13.SegmentRot", spec := "segmentRot", unfollowed := true, recurses := true, apart := false, narrowed := true }
def SegmentRotUptoSaid : Prop := segmentRotUptoRow.holds Try.pinned (OpenSpec.upto segmentRotSpec)

/-- 'undercroftlaw13.SegmentOwners', WHERE WHAT IT READS IS OF BULK AT MOST 1048576: true; the input reads as it did. -/
def segmentOwnersUptoRow : OpenClaim := { program := "ytmjgamokddedkaa", sum := "c05416ed71554a659900543cc58217e3923cb80adf3eea1c3b60396d4ab348a3", func := "undercroft/undercroftlaw13.SegmentOwners", spec := "segmentOwners", unfollowed := true, recurses := true, apart := false, narrowed := true }
def SegmentOwnersUptoSaid : Prop := segmentOwnersUptoRow.holds Try.pinned (OpenSpec.upto segmentOwnersSpec)

/-- 'undercroftlaw13.SegmentOwn', WHERE WHAT IT READS IS OF BULK AT MOST 1048576: true; the input reads as it did. -/
def segmentOwnUptoRow : OpenClaim := { program := "ytmjgamokddedkaa", sum := "c05416ed71554a659900543cc58217e3923cb80adf3eea1c3b60396d4ab348a3", func := "undercroft/undercroftlaw13.SegmentOwn", spec := "segmentOwn", unfollowed := true, recurses := true, apart := false, narrowed := true }
def SegmentOwnUptoSaid : Prop := segmentOwnUptoRow.holds Try.pinned (OpenSpec.upto segmentOwnSpec)

/-- 'undercroftlaw13.SegmentHolds', WHERE WHAT IT READS IS OF BULK AT MOST 1048576: true; the input reads as it did. -/
def segmentHoldsUptoRow : OpenClaim := { program := "ytmjgamokddedkaa", sum := "c05416ed71554a659900543cc58217e3923cb80adf3eea1c3b60396d4ab348a3", func := "undercroft/undercroftlaw13.SegmentHolds", spec := "segmentHolds", unfollowed := true, recurses := true, apart := false, narrowed := true }
def SegmentHoldsUptoSaid : Prop := segmentHoldsUptoRow.holds Try.pinned (OpenSpec.upto segmentHoldsSpec)

end Rows
end Go.Proofs.Ytmjgamokddedkaa
