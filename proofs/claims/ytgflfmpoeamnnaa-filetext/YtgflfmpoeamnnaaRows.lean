/-
  No cell of these rows narrows 'for every input' (looked for: loops, veiled, ifaces, maps, wideKeys, modest, calm, conditions, laid).
  DERIVED. THE GIVEN ROWS OF THIS SEAT. 5 by the template 'for every input the law returns true; each argument reads behind the call as it read before'; 0 by the template 'total and deterministic' (their statements: YtgflfmpoeamnnaaTotals.lean).
  GIVEN WITH THE SEED: the statements are not yours to turn. If you find one false, say at which input.
  Laid BY PROGRAM, IN A SANDBOX (cutbox-rows.mjs): the forced cells as the released guide's own fill.sh prints them over the translation f54ab72178fa3a78… (all of the seat's roots in one cut). By AI agents, Wed Nov 11 2026. No macro, syntax, notation, axiom, sorry.
-/
import Derived.Test.YtgflfmpoeamnnaaChecked
import GoSem.Claim
import GoSem.ClaimJoined
import GoSem.ClaimMapViews
import Derived.JoinedTies
import Derived.KernelRfl
namespace Go.Proofs.Ytgflfmpoeamnnaa
/- THE CELL 'sum', in the pinned program and in every row, IS THE sha256 OF THE DUMP (.gsa) THAT YtgflfmpoeamnnaaProg.lean LOADS. Nothing in Lean hashes anything: it is a label: what it is worth is what the hold of that sum in a sandbox is worth. -/
noncomputable def Try.pinned : Pinned := { name := "ytgflfmpoeamnnaa", sum := "f54ab72178fa3a788dee4c256996629a8be4ee66fd61b9bba45f7358b7cf2b1c", checked := Try.checked }
namespace Rows
def none {H : Type} : Left H := { results := [], args := [] }

/-- 'undercroftlaw07.FileTells': WHATEVER THE INPUT: true; the input reads as it did. -/
def fileTellsSpec : ChangeSpec := { name := "fileTells", fn := fun _ => fun
  | [d1, d2, d3, d4] => { results := [.lit (.bool true)], args := [d1, d2, d3, d4] }
  | _ => none }
def fileTellsRow : OpenClaim := { program := "ytgflfmpoeamnnaa", sum := "f54ab72178fa3a788dee4c256996629a8be4ee66fd61b9bba45f7358b7cf2b1c", func := "undercroft/undercroftlaw07.FileTells", spec := "fileTells", unfollowed := true, recurses := true, apart := false }
def FileTellsSaid : Prop := fileTellsRow.holds Try.pinned (OpenSpec.ofChange fileTellsSpec)

/-- ITS FALSE NEIGHBOUR: 'it returns false'. Refute it at one input. -/
def fileTellsWrong : ChangeSpec := { name := "fileTells", fn := fun _ => fun
  | [d1, d2, d3, d4] => { results := [.lit (.bool false)], args := [d1, d2, d3, d4] }
  | _ => none }
def FileTellsWrongFalsely : Prop := fileTellsRow.holds Try.pinned (OpenSpec.ofChange fileTellsWrong)

/-- 'undercroftlaw07.FileText': WHATEVER THE INPUT: true; the input reads as it did. -/
def fileTextSpec : ChangeSpec := { name := "fileText", fn := fun _ => fun
  | [d1, d2, d3] => { results := [.lit (.bool true)], args := [d1, d2, d3] }
  | _ => none }
def fileTextRow : OpenClaim := { program := "ytgflfmpoeamnnaa", sum := "f54ab72178fa3a788dee4c256996629a8be4ee66fd61b9bba45f7358b7cf2b1c", func := "undercroft/undercroftlaw07.FileText", spec := "fileText", unfollowed := true, recurses := true, apart := false }
def FileTextSaid : Prop := fileTextRow.holds Try.pinned (OpenSpec.ofChange fileTextSpec)

/-- ITS FALSE NEIGHBOUR: 'it returns false'. Refute it at one input. -/
def fileTextWrong : ChangeSpec := { name := "fileText", fn := fun _ => fun
  | [d1, d2, d3] => { results := [.lit (.bool false)], args := [d1, d2, d3] }
  | _ => none }
def FileTextWrongFalsely : Prop := fileTextRow.holds Try.pinned (OpenSpec.ofChange fileTextWrong)

/-- 'undercroftlaw07.FileOne': WHATEVER THE INPUT: true; the input reads as it did. -/
def fileOneSpec : ChangeSpec := { name := "fileOne", fn := fun _ => fun
  | [d1, d2] => { results := [.lit (.bool true)], args := [d1, d2] }
  | _ => none }
def fileOneRow : OpenClaim := { program := "ytgflfmpoeamnnaa", sum := "f54ab72178fa3a788dee4c256996629a8be4ee66fd61b9bba45f7358b7cf2b1c", func := "undercroft/undercroftlaw07.FileOne", spec := "fileOne", unfollowed := true, recurses := true, apart := false }
def FileOneSaid : Prop := fileOneRow.holds Try.pinned (OpenSpec.ofChange fileOneSpec)

/-- ITS FALSE NEIGHBOUR: 'it returns false'. Refute it at one input. -/
def fileOneWrong : ChangeSpec := { name := "fileOne", fn := fun _ => fun
  | [d1, d2] => { results := [.lit (.bool false)], args := [d1, d2] }
  | _ => none }
def FileOneWrongFalsely : Prop := fileOneRow.holds Try.pinned (OpenSpec.ofChange fileOneWrong)

/-- 'undercroftlaw07.FileCut': WHATEVER THE INPUT: true; the input reads as it did. -/
def fileCutSpec : ChangeSpec := { name := "fileCut", fn := fun _ => fun
  | [d1, d2, d3] => { results := [.lit (.bool true)], args := [d1, d2, d3] }
  | _ => none }
def fileCutRow : OpenClaim := { program := "ytgflfmpoeamnnaa", sum := "f54ab72178fa3a788dee4c256996629a8be4ee66fd61b9bba45f7358b7cf2b1c", func := "undercroft/undercroftlaw07.FileCut", spec := "fileCut", unfollowed := true, recurses := true, apart := false }
def FileCutSaid : Prop := fileCutRow.holds Try.pinned (OpenSpec.ofChange fileCutSpec)

/-- ITS FALSE NEIGHBOUR: 'it returns false'. Refute it at one input. -/
def fileCutWrong : ChangeSpec := { name := "fileCut", fn := fun _ => fun
  | [d1, d2, d3] => { results := [.lit (.bool false)], args := [d1, d2, d3] }
  | _ => none }
def FileCutWrongFalsely : Prop := fileCutRow.holds Try.pinned (OpenSpec.ofChange fileCutWrong)

/-- 'undercroftlaw07.FileOwn': WHATEVER THE INPUT: true; the input reads as it did. -/
def fileOwnSpec : ChangeSpec := { name := "fileOwn", fn := fun _ => fun
  | [d1, d2, d3] => { results := [.lit (.bool true)], args := [d1, d2, d3] }
  | _ => none }
def fileOwnRow : OpenClaim := { program := "ytgflfmpoeamnnaa", sum := "f54ab72178fa3a788dee4c256996629a8be4ee66fd61b9bba45f7358b7cf2b1c", func := "undercroft/undercroftlaw07.FileOwn", spec := "fileOwn", unfollowed := true, recurses := true, apart := false }
def FileOwnSaid : Prop := fileOwnRow.holds Try.pinned (OpenSpec.ofChange fileOwnSpec)

/-- ITS FALSE NEIGHBOUR: 'it returns false'. Refute it at one input. -/
def fileOwnWrong : ChangeSpec := { name := "fileOwn", fn := fun _ => fun
  | [d1, d2, d3] => { results := [.lit (.bool false)], args := [d1, d2, d3] }
  | _ => none }
def FileOwnWrongFalsely : Prop := fileOwnRow.holds Try.pinned (OpenSpec.ofChange fileOwnWrong)

/- THE SECOND FORM. 'bulk': how many values and letters a reading holds, each counted each time it is reached (what is shared counts as often as it is met; a slice's spare places count too). A statement '..UptoSaid' is the law's where the arguments, and the package variables that the reading takes, are together of bulk at most 1048576: NARROWER than '..Said'. Prove '..Said' where nothing that the law and all that it calls make is longer than what came in: it says more and counts as full. Else prove '..UptoSaid'. A law counts once. -/
mutual
def uptoBulk {H : Type} : DataW H → Nat
  | .lit (.string bytes) => bytes.length + 1
  | .lit _ => 1
  | .nil => 1
  | .ptr d => uptoBulk d + 1
  | .slice elems spare => uptoBulkAll elems + uptoBulkAll spare + 1
  | .agg parts => uptoBulkAll parts + 1
  | .iface _ d => uptoBulk d + 1
  | .map entries => uptoBulkEntries entries + 1
  | .held _ => 1
def uptoBulkAll {H : Type} : List (DataW H) → Nat
  | [] => 0
  | d :: r => uptoBulk d + uptoBulkAll r
def uptoBulkEntries {H : Type} : List (Lit × DataW H) → Nat
  | [] => 0
  | x :: r => uptoBulkEntry x + uptoBulkEntries r
def uptoBulkEntry {H : Type} : Lit × DataW H → Nat
  | (.string bytes, d) => bytes.length + uptoBulk d + 1
  | (_, d) => uptoBulk d + 1
 end
def uptoSmall : (H : Type) → List (DataW H) → Bool := fun _ ds => decide (uptoBulkAll ds ≤ 1048576)
def OpenSpec.upto (s : _root_.Go.ChangeSpec) : _root_.Go.OpenSpec := { _root_.Go.OpenSpec.ofChange s with cond := some uptoSmall }

/-- 'undercroftlaw07.FileTells', WHERE WHAT IT READS IS OF BULK AT MOST 1048576: true; the input reads as it did. -/
def fileTellsUptoRow : OpenClaim := { program := "ytgflfmpoeamnnaa", sum := "f54ab72178fa3a788dee4c256996629a8be4ee66fd61b9bba45f7358b7cf2b1c", func := "undercroft/undercroftlaw07.FileTells", spec := "fileTells", unfollowed := true, recurses := true, apart := false, narrowed := true }
def FileTellsUptoSaid : Prop := fileTellsUptoRow.holds Try.pinned (OpenSpec.upto fileTellsSpec)

/-- 'undercroftlaw07.FileText', WHERE WHAT IT READS IS OF BULK AT MOST 1048576: true; the input reads as it did. -/
def fileTextUptoRow : OpenClaim := { program := "ytgflfmpoeamnnaa", sum := "f54ab72178fa3a788dee4c256996629a8be4ee66fd61b9bba45f7358b7cf2b1c", func := "undercroft/undercroftlaw07.FileText", spec := "fileText", unfollowed := true, recurses := true, apart := false, narrowed := true }
def FileTextUptoSaid : Prop := fileTextUptoRow.holds Try.pinned (OpenSpec.upto fileTextSpec)

/-- 'undercroftlaw07.FileOne', WHERE WHAT IT READS IS OF BULK AT MOST 1048576: true; the input reads as it did. -/
def fileOneUptoRow : OpenClaim := { program := "ytgflfmpoeamnnaa", sum := "f54ab72178fa3a788dee4c256996629a8be4ee66fd61b9bba45f7358b7cf2b1c", func := "undercroft/undercroftlaw07.FileOne", spec := "fileOne", unfollowed := true, recurses := true, apart := false, narrowed := true }
def FileOneUptoSaid : Prop := fileOneUptoRow.holds Try.pinned (OpenSpec.upto fileOneSpec)

/-- 'undercroftlaw07.FileCut', WHERE WHAT IT READS IS OF BULK AT MOST 1048576: true; the input reads as it did. -/
def fileCutUptoRow : OpenClaim := { program := "ytgflfmpoeamnnaa", sum := "f54ab72178fa3a788dee4c256996629a8be4ee66fd61b9bba45f7358b7cf2b1c", func := "undercroft/undercroftlaw07.FileCut", spec := "fileCut", unfollowed := true, recurses := true, apart := false, narrowed := true }
def FileCutUptoSaid : Prop := fileCutUptoRow.holds Try.pinned (OpenSpec.upto fileCutSpec)

/-- 'undercroftlaw07.FileOwn', WHERE WHAT IT READS IS OF BULK AT MOST 1048576: true; the input reads as it did. -/
def fileOwnUptoRow : OpenClaim := { program := "ytgflfmpoeamnnaa", sum := "f54ab72178fa3a788dee4c256996629a8be4ee66fd61b9bba45f7358b7cf2b1c", func := "undercroft/undercroftlaw07.FileOwn", spec := "fileOwn", unfollowed := true, recurses := true, apart := false, narrowed := true }
def FileOwnUptoSaid : Prop := fileOwnUptoRow.holds Try.pinned (OpenSpec.upto fileOwnSpec)

end Rows
end Go.Proofs.Ytgflfmpoeamnnaa
