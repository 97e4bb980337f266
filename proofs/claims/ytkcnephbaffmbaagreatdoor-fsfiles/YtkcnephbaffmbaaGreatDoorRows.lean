/-
  NARROWER THAN 'FOR EVERY INPUT', by the rows' own cells (each row's printed sentence says how): FsMakes: laid · FsNames: laid · FsFiles: laid · FsKeeps: laid · FsUndone: laid · FsThere: laid.
  DERIVED. THE GIVEN ROWS OF THIS SEAT. 6 by the template 'for every input the law returns true; each argument reads behind the call as it read before'; 0 by the template 'total and deterministic' (their statements: YtkcnephbaffmbaaGreatDoorTotals.lean).
  GIVEN WITH THE SEED: the statements are not yours to turn. If you find one false, say at which input.
  Laid BY PROGRAM, IN A SANDBOX (cutbox-rows.mjs): the forced cells as the released guide's own fill.sh prints them over the translation 24575cd2f2b918f6… (all of the seat's roots in one cut). By AI agents, Wed Nov 11 2026. No macro, syntax, notation, axiom, sorry.
-/
import Derived.Test.YtkcnephbaffmbaaGreatDoorChecked
import GoSem.Claim
import GoSem.ClaimJoined
import GoSem.ClaimMapViews
import Derived.JoinedTies
import Derived.KernelRfl
namespace Go.Proofs.YtkcnephbaffmbaaGreatDoor
/- THE CELL 'sum', in the pinned program and in every row, IS THE sha256 OF THE DUMP (.gsa) THAT YtkcnephbaffmbaaGreatDoorProg.lean LOADS. Nothing in Lean hashes anything: it is a label: what it is worth is what the hold of that sum in a sandbox is worth. -/
noncomputable def Tryz.pinned : Pinned := { name := "ytkcnephbaffmbaagreatdoor", sum := "24575cd2f2b918f6d6e0bd79393ffd31a9c143dcf3ff28c6221d2641955f66fd", checked := Tryz.checked }
namespace Rows
def none {H : Type} : Left H := { results := [], args := [] }

/- WHAT THE LISTED PACKAGE-LEVEL VARIABLES READ AS WHEN THE CALL BEGINS. Each datum BY PROGRAM (the guide's laid-datum.mjs) off the statement by which the dump's own 'gosem.cut.vars' lays the variable. In a bare row this is a premise. The card (YtkcnephbaffmbaaGreatDoorCards.lean) ties it to the program's text. -/
def laid_errors_errorType {H : Type} : DataW H := .iface "internal/reflectlite.rtype" (.agg [.ptr (.lit (.string [101, 114, 114, 111, 114]))])

/-- 'undercroftlaw10.FsMakes': WHATEVER THE INPUT: true; the input reads as it did. -/
def fsMakesSpec : ChangeSpec := { name := "fsMakes", fn := fun _ => fun
  | [d1, d2] => { results := [.lit (.bool true)], args := [d1, d2] }
  | _ => none }
def fsMakesRow : OpenClaim := { program := "ytkcnephbaffmbaagreatdoor", sum := "24575cd2f2b918f6d6e0bd79393ffd31a9c143dcf3ff28c6221d2641955f66fd", func := "undercroft/undercroftlaw10.FsMakes", spec := "fsMakes", inPlace := ["internal/bytealg.IndexByteString", "internal/bytealg.IndexString", "internal/reflectlite.ValueOf", "(internal/reflectlite.Value).Type", "(internal/reflectlite.Value).IsNil", "internal/reflectlite.TypeOf", "(internal/reflectlite.Value).Elem", "(internal/reflectlite.Value).Set"], unfollowed := true, recurses := true, named := ["internal/bytealg.MaxLen", "errors.errorType"], apart := false, laid := [("errors.errorType", laid_errors_errorType)] }
def FsMakesSaid : Prop := fsMakesRow.holds Tryz.pinned (OpenSpec.ofChange fsMakesSpec)

/-- ITS FALSE NEIGHBOUR: 'it returns false'. Refute it at one input. -/
def fsMakesWrong : ChangeSpec := { name := "fsMakes", fn := fun _ => fun
  | [d1, d2] => { results := [.lit (.bool false)], args := [d1, d2] }
  | _ => none }
def FsMakesWrongFalsely : Prop := fsMakesRow.holds Tryz.pinned (OpenSpec.ofChange fsMakesWrong)

/-- 'undercroftlaw10.FsNames': WHATEVER THE INPUT: true; the input reads as it did. -/
def fsNamesSpec : ChangeSpec := { name := "fsNames", fn := fun _ => fun
  | [d1, d2, d3] => { results := [.lit (.bool true)], args := [d1, d2, d3] }
  | _ => none }
def fsNamesRow : OpenClaim := { program := "ytkcnephbaffmbaagreatdoor", sum := "24575cd2f2b918f6d6e0bd79393ffd31a9c143dcf3ff28c6221d2641955f66fd", func := "undercroft/undercroftlaw10.FsNames", spec := "fsNames", inPlace := ["internal/bytealg.IndexByteString", "internal/bytealg.IndexString", "internal/reflectlite.ValueOf", "(internal/reflectlite.Value).Type", "(internal/reflectlite.Value).IsNil", "internal/reflectlite.TypeOf", "(internal/reflectlite.Value).Elem", "(internal/reflectlite.Value).Set"], unfollowed := true, recurses := true, named := ["internal/bytealg.MaxLen", "errors.errorType"], apart := false, laid := [("errors.errorType", laid_errors_errorType)] }
def FsNamesSaid : Prop := fsNamesRow.holds Tryz.pinned (OpenSpec.ofChange fsNamesSpec)

/-- ITS FALSE NEIGHBOUR: 'it returns false'. Refute it at one input. -/
def fsNamesWrong : ChangeSpec := { name := "fsNames", fn := fun _ => fun
  | [d1, d2, d3] => { results := [.lit (.bool false)], args := [d1, d2, d3] }
  | _ => none }
def FsNamesWrongFalsely : Prop := fsNamesRow.holds Tryz.pinned (OpenSpec.ofChange fsNamesWrong)

/-- 'undercroftlaw10.FsFiles': WHATEVER THE INPUT: true; the input reads as it did. -/
def fsFilesSpec : ChangeSpec := { name := "fsFiles", fn := fun _ => fun
  | [d1, d2, d3, d4, d5] => { results := [.lit (.bool true)], args := [d1, d2, d3, d4, d5] }
  | _ => none }
def fsFilesRow : OpenClaim := { program := "ytkcnephbaffmbaagreatdoor", sum := "24575cd2f2b918f6d6e0bd79393ffd31a9c143dcf3ff28c6221d2641955f66fd", func := "undercroft/undercroftlaw10.FsFiles", spec := "fsFiles", inPlace := ["internal/bytealg.IndexByteString", "internal/bytealg.IndexString", "internal/reflectlite.ValueOf", "(internal/reflectlite.Value).Type", "(internal/reflectlite.Value).IsNil", "internal/reflectlite.TypeOf", "(internal/reflectlite.Value).Elem", "(internal/reflectlite.Value).Set"], unfollowed := true, recurses := true, named := ["internal/bytealg.MaxLen", "errors.errorType"], apart := false, laid := [("errors.errorType", laid_errors_errorType)] }
def FsFilesSaid : Prop := fsFilesRow.holds Tryz.pinned (OpenSpec.ofChange fsFilesSpec)

/-- ITS FALSE NEIGHBOUR: 'it returns false'. Refute it at one input. -/
def fsFilesWrong : ChangeSpec := { name := "fsFiles", fn := fun _ => fun
  | [d1, d2, d3, d4, d5] => { results := [.lit (.bool false)], args := [d1, d2, d3, d4, d5] }
  | _ => none }
def FsFilesWrongFalsely : Prop := fsFilesRow.holds Tryz.pinned (OpenSpec.ofChange fsFilesWrong)

/-- 'undercroftlaw10.FsKeeps': WHATEVER THE INPUT: true; the input reads as it did. -/
def fsKeepsSpec : ChangeSpec := { name := "fsKeeps", fn := fun _ => fun
  | [d1, d2, d3, d4] => { results := [.lit (.bool true)], args := [d1, d2, d3, d4] }
  | _ => none }
def fsKeepsRow : OpenClaim := { program := "ytkcnephbaffmbaagreatdoor", sum := "24575cd2f2b918f6d6e0bd79393ffd31a9c143dcf3ff28c6221d2641955f66fd", func := "undercroft/undercroftlaw10.FsKeeps", spec := "fsKeeps", inPlace := ["internal/bytealg.IndexByteString", "internal/bytealg.IndexString", "internal/reflectlite.ValueOf", "(internal/reflectlite.Value).Type", "(internal/reflectlite.Value).IsNil", "internal/reflectlite.TypeOf", "(internal/reflectlite.Value).Elem", "(internal/reflectlite.Value).Set"], unfollowed := true, recurses := true, named := ["internal/bytealg.MaxLen", "errors.errorType"], apart := false, laid := [("errors.errorType", laid_errors_errorType)] }
def FsKeepsSaid : Prop := fsKeepsRow.holds Tryz.pinned (OpenSpec.ofChange fsKeepsSpec)

/-- ITS FALSE NEIGHBOUR: 'it returns false'. Refute it at one input. -/
def fsKeepsWrong : ChangeSpec := { name := "fsKeeps", fn := fun _ => fun
  | [d1, d2, d3, d4] => { results := [.lit (.bool false)], args := [d1, d2, d3, d4] }
  | _ => none }
def FsKeepsWrongFalsely : Prop := fsKeepsRow.holds Tryz.pinned (OpenSpec.ofChange fsKeepsWrong)

/-- 'undercroftlaw10.FsUndone': WHATEVER THE INPUT: true; the input reads as it did. -/
def fsUndoneSpec : ChangeSpec := { name := "fsUndone", fn := fun _ => fun
  | [d1, d2] => { results := [.lit (.bool true)], args := [d1, d2] }
  | _ => none }
def fsUndoneRow : OpenClaim := { program := "ytkcnephbaffmbaagreatdoor", sum := "24575cd2f2b918f6d6e0bd79393ffd31a9c143dcf3ff28c6221d2641955f66fd", func := "undercroft/undercroftlaw10.FsUndone", spec := "fsUndone", inPlace := ["internal/bytealg.IndexByteString", "internal/bytealg.IndexString", "internal/reflectlite.ValueOf", "(internal/reflectlite.Value).Type", "(internal/reflectlite.Value).IsNil", "internal/reflectlite.TypeOf", "(internal/reflectlite.Value).Elem", "(internal/reflectlite.Value).Set"], unfollowed := true, recurses := true, named := ["internal/bytealg.MaxLen", "errors.errorType"], apart := false, laid := [("errors.errorType", laid_errors_errorType)] }
def FsUndoneSaid : Prop := fsUndoneRow.holds Tryz.pinned (OpenSpec.ofChange fsUndoneSpec)

/-- ITS FALSE NEIGHBOUR: 'it returns false'. Refute it at one input. -/
def fsUndoneWrong : ChangeSpec := { name := "fsUndone", fn := fun _ => fun
  | [d1, d2] => { results := [.lit (.bool false)], args := [d1, d2] }
  | _ => none }
def FsUndoneWrongFalsely : Prop := fsUndoneRow.holds Tryz.pinned (OpenSpec.ofChange fsUndoneWrong)

/-- 'undercroftlaw10.FsThere': WHATEVER THE INPUT: true; the input reads as it did. -/
def fsThereSpec : ChangeSpec := { name := "fsThere", fn := fun _ => fun
  | [d1, d2, d3] => { results := [.lit (.bool true)], args := [d1, d2, d3] }
  | _ => none }
def fsThereRow : OpenClaim := { program := "ytkcnephbaffmbaagreatdoor", sum := "24575cd2f2b918f6d6e0bd79393ffd31a9c143dcf3ff28c6221d2641955f66fd", func := "undercroft/undercroftlaw10.FsThere", spec := "fsThere", inPlace := ["internal/bytealg.IndexByteString", "internal/bytealg.IndexString", "internal/reflectlite.ValueOf", "(internal/reflectlite.Value).Type", "(internal/reflectlite.Value).IsNil", "internal/reflectlite.TypeOf", "(internal/reflectlite.Value).Elem", "(internal/reflectlite.Value).Set"], unfollowed := true, recurses := true, named := ["internal/bytealg.MaxLen", "errors.errorType"], apart := false, laid := [("errors.errorType", laid_errors_errorType)] }
def FsThereSaid : Prop := fsThereRow.holds Tryz.pinned (OpenSpec.ofChange fsThereSpec)

/-- ITS FALSE NEIGHBOUR: 'it returns false'. Refute it at one input. -/
def fsThereWrong : ChangeSpec := { name := "fsThere", fn := fun _ => fun
  | [d1, d2, d3] => { results := [.lit (.bool false)], args := [d1, d2, d3] }
  | _ => none }
def FsThereWrongFalsely : Prop := fsThereRow.holds Tryz.pinned (OpenSpec.ofChange fsThereWrong)

/- THE SECOND FORM. 'bulk': how many values and letters a reading holds, each counted each time it is reached (what is shared counts as often as it is met; a slice's spare places count too). A statement '..UptoSaid' is the law's where the arguments, and the package variables that the reading takes, are together of bulk at most 1048576: NARROWER than '..Said'. Prove '..Said' where nothing that the law and all that it calls make is longer than what came in: it says more and counts as full. Else prove '..UptoSaid'. A law counts once. -/
mutual
def uptoBulk {H : Type} : DataW H → Nat
  | .lit (.string bytes) => bytes.length + 1
  | .lit _ => 1
  | .nil => 1
  | .ptr d => uptoBulk d + 1
  | .slice elems spare => uptoBulkAll elems + uptoBulkAll spare + 1
  | .agg parts => uptoBulkAll parts + 1
  | .iface _ d => uptoBulk d + 1
  | .map entries => uptoBulkEntries entries + 1
  | .held _ => 1
def uptoBulkAll {H : Type} : List (DataW H) → Nat
  | [] => 0
  | d :: r => uptoBulk d + uptoBulkAll r
def uptoBulkEntries {H : Type} : List (Lit × DataW H) → Nat
  | [] => 0
  | x :: r => uptoBulkEntry x + uptoBulkEntries r
def uptoBulkEntry {H : Type} : Lit × DataW H → Nat
  | (.string bytes, d) => bytes.length + uptoBulk d + 1
  | (_, d) => uptoBulk d + 1
 end
def uptoSmall : (H : Type) → List (DataW H) → Bool := fun _ ds => decide (uptoBulkAll ds ≤ 1048576)
def OpenSpec.upto (s : _root_.Go.ChangeSpec) : _root_.Go.OpenSpec := { _root_.Go.OpenSpec.ofChange s with cond := some uptoSmall }

/-- 'undercroftlaw10.FsMakes', WHERE WHAT IT READS IS OF BULK AT MOST 1048576: true; the input reads as it did. -/
def fsMakesUptoRow : OpenClaim := { program := "ytkcnephbaffmbaagreatdoor", sum := "24575cd2f2b918f6d6e0bd79393ffd31a9c143dcf3ff28c6221d2641955f66fd", func := "undercroft/undercroftlaw10.FsMakes", spec := "fsMakes", inPlace := ["internal/bytealg.IndexByteString", "internal/bytealg.IndexString", "internal/reflectlite.ValueOf", "(internal/reflectlite.Value).Type", "(internal/reflectlite.Value).IsNil", "internal/reflectlite.TypeOf", "(internal/reflectlite.Value).Elem", "(internal/reflectlite.Value).Set"], unfollowed := true, recurses := true, named := ["internal/bytealg.MaxLen", "errors.errorType"], apart := false, laid := [("errors.errorType", laid_errors_errorType)], narrowed := true }
def FsMakesUptoSaid : Prop := fsMakesUptoRow.holds Tryz.pinned (OpenSpec.upto fsMakesSpec)

/-- 'undercroftlaw10.FsNames', WHERE WHAT IT READS IS OF BULK AT MOST 1048576: true; the input reads as it did. -/
def fsNamesUptoRow : OpenClaim := { program := "ytkcnephbaffmbaagreatdoor", sum := "24575cd2f2b918f6d6e0bd79393ffd31a9c143dcf3ff28c6221d2641955f66fd", func := "undercroft/undercroftlaw10.FsNames", spec := "fsNames", inPlace := ["internal/bytealg.IndexByteString", "internal/bytealg.IndexString", "internal/reflectlite.ValueOf", "(internal/reflectlite.Value).Type", "(internal/reflectlite.Value).IsNil", "internal/reflectlite.TypeOf", "(internal/reflectlite.Value).Elem", "(internal/reflectlite.Value).Set"], unfollowed := true, recurses := true, named := ["internal/bytealg.MaxLen", "errors.errorType"], apart := false, laid := [("errors.errorType", laid_errors_errorType)], narrowed := true }
def FsNamesUptoSaid : Prop := fsNamesUptoRow.holds Tryz.pinned (OpenSpec.upto fsNamesSpec)

/-- 'undercroftlaw10.FsFiles', WHERE WHAT IT READS IS OF BULK AT MOST 1048576: true; the input reads as it did. -/
def fsFilesUptoRow : OpenClaim := { program := "ytkcnephbaffmbaagreatdoor", sum := "24575cd2f2b918f6d6e0bd79393ffd31a9c143dcf3ff28c6221d2641955f66fd", func := "undercroft/undercroftlaw10.FsFiles", spec := "fsFiles", inPlace := ["internal/bytealg.IndexByteString", "internal/bytealg.IndexString", "internal/reflectlite.ValueOf", "(internal/reflectlite.Value).Type", "(internal/reflectlite.Value).IsNil", "internal/reflectlite.TypeOf", "(internal/reflectlite.Value).Elem", "(internal/reflectlite.Value).Set"], unfollowed := true, recurses := true, named := ["internal/bytealg.MaxLen", "errors.errorType"], apart := false, laid := [("errors.errorType", laid_errors_errorType)], narrowed := true }
def FsFilesUptoSaid : Prop := fsFilesUptoRow.holds Tryz.pinned (OpenSpec.upto fsFilesSpec)

/-- 'undercroftlaw10.FsKeeps', WHERE WHAT IT READS IS OF BULK AT MOST 1048576: true; the input reads as it did. -/
def fsKeepsUptoRow : OpenClaim := { program := "ytkcnephbaffmbaagreatdoor", sum := "24575cd2f2b918f6d6e0bd79393ffd31a9c143dcf3ff28c6221d2641955f66fd", func := "undercroft/undercroftlaw10.FsKeeps", spec := "fsKeeps", inPlace := ["internal/bytealg.IndexByteString", "internal/bytealg.IndexString", "internal/reflectlite.ValueOf", "(internal/reflectlite.Value).Type", "(internal/reflectlite.Value).IsNil", "internal/reflectlite.TypeOf", "(internal/reflectlite.Value).Elem", "(internal/reflectlite.Value).Set"], unfollowed := true, recurses := true, named := ["internal/bytealg.MaxLen", "errors.errorType"], apart := false, laid := [("errors.errorType", laid_errors_errorType)], narrowed := true }
def FsKeepsUptoSaid : Prop := fsKeepsUptoRow.holds Tryz.pinned (OpenSpec.upto fsKeepsSpec)

/-- 'undercroftlaw10.FsUndone', WHERE WHAT IT READS IS OF BULK AT MOST 1048576: true; the input reads as it did. -/
def fsUndoneUptoRow : OpenClaim := { program := "ytkcnephbaffmbaagreatdoor", sum := "24575cd2f2b918f6d6e0bd79393ffd31a9c143dcf3ff28c6221d2641955f66fd", func := "undercroft/undercroftlaw10.FsUndone", spec := "fsUndone", inPlace := ["internal/bytealg.IndexByteString", "internal/bytealg.IndexString", "internal/reflectlite.ValueOf", "(internal/reflectlite.Value).Type", "(internal/reflectlite.Value).IsNil", "internal/reflectlite.TypeOf", "(internal/reflectlite.Value).Elem", "(internal/reflectlite.Value).Set"], unfollowed := true, recurses := true, named := ["internal/bytealg.MaxLen", "errors.errorType"], apart := false, laid := [("errors.errorType", laid_errors_errorType)], narrowed := true }
def FsUndoneUptoSaid : Prop := fsUndoneUptoRow.holds Tryz.pinned (OpenSpec.upto fsUndoneSpec)

/-- 'undercroftlaw10.FsThere', WHERE WHAT IT READS IS OF BULK AT MOST 1048576: true; the input reads as it did. -/
def fsThereUptoRow : OpenClaim := { program := "ytkcnephbaffmbaagreatdoor", sum := "24575cd2f2b918f6d6e0bd79393ffd31a9c143dcf3ff28c6221d2641955f66fd", func := "undercroft/undercroftlaw10.FsThere", spec := "fsThere", inPlace := ["internal/bytealg.IndexByteString", "internal/bytealg.IndexString", "internal/reflectlite.ValueOf", "(internal/reflectlite.Value).Type", "(internal/reflectlite.Value).IsNil", "internal/reflectlite.TypeOf", "(internal/reflectlite.Value).Elem", "(internal/reflectlite.Value).Set"], unfollowed := true, recurses := true, named := ["internal/bytealg.MaxLen", "errors.errorType"], apart := false, laid := [("errors.errorType", laid_errors_errorType)], narrowed := true }
def FsThereUptoSaid : Prop := fsThereUptoRow.holds Tryz.pinned (OpenSpec.upto fsThereSpec)

end Rows
end Go.Proofs.YtkcnephbaffmbaaGreatDoor
