/-
  No cell of these rows narrows 'for every input' (looked for: loops, veiled, ifaces, maps, wideKeys, modest, calm, conditions, laid).
  DERIVED. THE GIVEN ROWS OF THIS SEAT. 6 by the template 'for every input the law returns true; each argument reads behind the call as it read before'; 0 by the template 'total and deterministic' (their statements: YtkpckadicjdieaaTotals.lean).
  GIVEN WITH THE SEED: the statements are not yours to turn. If you find one false, say at which input.
  Laid BY PROGRAM, IN A SANDBOX (cutbox-rows.mjs): the forced cells as the released guide's own fill.sh prints them over the translation 7a5b557942074bb7… (all of the seat's roots in one cut). By AI agents, Wed Nov 11 2026. No macro, syntax, notation, axiom, sorry.
-/
import Derived.Test.YtkpckadicjdieaaChecked
import GoSem.Claim
import GoSem.ClaimJoined
import GoSem.ClaimMapViews
import Derived.JoinedTies
import Derived.KernelRfl
namespace Go.Proofs.Ytkpckadicjdieaa
/- THE CELL 'sum', in the pinned program and in every row, IS THE sha256 OF THE DUMP (.gsa) THAT YtkpckadicjdieaaProg.lean LOADS. Nothing in Lean hashes anything: it is a label: what it is worth is what the hold of that sum in a sandbox is worth. -/
noncomputable def Try.pinned : Pinned := { name := "ytkpckadicjdieaa", sum := "7a5b557942074bb7514854ff01d2641b2d127a4620821000115e0bb94125e6a0", checked := Try.checked }
namespace Rows
def none {H : Type} : Left H := { results := [], args := [] }

/-- 'undercroftlaw15.LogTells': WHATEVER THE INPUT: true; the input reads as it did. -/
def logTellsSpec : ChangeSpec := { name := "logTells", fn := fun _ => fun
  | [d1, d2, d3, d4] => { results := [.lit (.bool true)], args := [d1, d2, d3, d4] }
  | _ => none }
def logTellsRow : OpenClaim := { program := "ytkpckadicjdieaa", sum := "7a5b557942074bb7514854ff01d2641b2d127a4620821000115e0bb94125e6a0", func := "undercroft/undercroftlaw15.LogTells", spec := "logTells", unfollowed := true, recurses := true, plainKeys := false, apart := false }
def LogTellsSaid : Prop := logTellsRow.holds Try.pinned (OpenSpec.ofChange logTellsSpec)

/-- ITS FALSE NEIGHBOUR: 'it returns false'. Refute it at one input. -/
def logTellsWrong : ChangeSpec := { name := "logTells", fn := fun _ => fun
  | [d1, d2, d3, d4] => { results := [.lit (.bool false)], args := [d1, d2, d3, d4] }
  | _ => none }
def LogTellsWrongFalsely : Prop := logTellsRow.holds Try.pinned (OpenSpec.ofChange logTellsWrong)

/-- 'undercroftlaw15.LogMap': WHATEVER THE INPUT: true; the input reads as it did. -/
def logMapSpec : ChangeSpec := { name := "logMap", fn := fun _ => fun
  | [d1, d2] => { results := [.lit (.bool true)], args := [d1, d2] }
  | _ => none }
def logMapRow : OpenClaim := { program := "ytkpckadicjdieaa", sum := "7a5b557942074bb7514854ff01d2641b2d127a4620821000115e0bb94125e6a0", func := "undercroft/undercroftlaw15.LogMap", spec := "logMap", unfollowed := true, recurses := true, plainKeys := false, apart := false }
def LogMapSaid : Prop := logMapRow.holds Try.pinned (OpenSpec.ofChange logMapSpec)

/-- ITS FALSE NEIGHBOUR: 'it returns false'. Refute it at one input. -/
def logMapWrong : ChangeSpec := { name := "logMap", fn := fun _ => fun
  | [d1, d2] => { results := [.lit (.bool false)], args := [d1, d2] }
  | _ => none }
def LogMapWrongFalsely : Prop := logMapRow.holds Try.pinned (OpenSpec.ofChange logMapWrong)

/-- 'undercroftlaw15.LogFrees': WHATEVER THE INPUT: true; the input reads as it did. -/
def logFreesSpec : ChangeSpec := { name := "logFrees", fn := fun _ => fun
  | [d1, d2] => { results := [.lit (.bool true)], args := [d1, d2] }
  | _ => none }
def logFreesRow : OpenClaim := { program := "ytkpckadicjdieaa", sum := "7a5b557942074bb7514854ff01d2641b2d127a4620821000115e0bb94125e6a0", func := "undercroft/undercroftlaw15.LogFrees", spec := "logFrees", unfollowed := true, recurses := true, plainKeys := false, apart := false }
def LogFreesSaid : Prop := logFreesRow.holds Try.pinned (OpenSpec.ofChange logFreesSpec)

/-- ITS FALSE NEIGHBOUR: 'it returns false'. Refute it at one input. -/
def logFreesWrong : ChangeSpec := { name := "logFrees", fn := fun _ => fun
  | [d1, d2] => { results := [.lit (.bool false)], args := [d1, d2] }
  | _ => none }
def LogFreesWrongFalsely : Prop := logFreesRow.holds Try.pinned (OpenSpec.ofChange logFreesWrong)

/-- 'undercroftlaw15.LogAgain': WHATEVER THE INPUT: true; the input reads as it did. -/
def logAgainSpec : ChangeSpec := { name := "logAgain", fn := fun _ => fun
  | [d1, d2] => { results := [.lit (.bool true)], args := [d1, d2] }
  | _ => none }
def logAgainRow : OpenClaim := { program := "ytkpckadicjdieaa", sum := "7a5b557942074bb7514854ff01d2641b2d127a4620821000115e0bb94125e6a0", func := "undercroft/undercroftlaw15.LogAgain", spec := "logAgain", unfollowed := true, recurses := true, plainKeys := false, apart := false }
def LogAgainSaid : Prop := logAgainRow.holds Try.pinned (OpenSpec.ofChange logAgainSpec)

/-- ITS FALSE NEIGHBOUR: 'it returns false'. Refute it at one input. -/
def logAgainWrong : ChangeSpec := { name := "logAgain", fn := fun _ => fun
  | [d1, d2] => { results := [.lit (.bool false)], args := [d1, d2] }
  | _ => none }
def LogAgainWrongFalsely : Prop := logAgainRow.holds Try.pinned (OpenSpec.ofChange logAgainWrong)

/-- 'undercroftlaw16.CleanTells': WHATEVER THE INPUT: true; the input reads as it did. -/
def cleanTellsSpec : ChangeSpec := { name := "cleanTells", fn := fun _ => fun
  | [d1, d2, d3, d4, d5] => { results := [.lit (.bool true)], args := [d1, d2, d3, d4, d5] }
  | _ => none }
def cleanTellsRow : OpenClaim := { program := "ytkpckadicjdieaa", sum := "7a5b557942074bb7514854ff01d2641b2d127a4620821000115e0bb94125e6a0", func := "undercroft/undercroftlaw16.CleanTells", spec := "cleanTells", unfollowed := true, recurses := true, plainKeys := false, apart := false }
def CleanTellsSaid : Prop := cleanTellsRow.holds Try.pinned (OpenSpec.ofChange cleanTellsSpec)

/-- ITS FALSE NEIGHBOUR: 'it returns false'. Refute it at one input. -/
def cleanTellsWrong : ChangeSpec := { name := "cleanTells", fn := fun _ => fun
  | [d1, d2, d3, d4, d5] => { results := [.lit (.bool false)], args := [d1, d2, d3, d4, d5] }
  | _ => none }
def CleanTellsWrongFalsely : Prop := cleanTellsRow.holds Try.pinned (OpenSpec.ofChange cleanTellsWrong)

/-- 'undercroftlaw16.CleanBest': WHATEVER THE INPUT: true; the input reads as it did. -/
def cleanBestSpec : ChangeSpec := { name := "cleanBest", fn := fun _ => fun
  | [d] => { results := [.lit (.bool true)], args := [d] }
  | _ => none }
def cleanBestRow : OpenClaim := { program := "ytkpckadicjdieaa", sum := "7a5b557942074bb7514854ff01d2641b2d127a4620821000115e0bb94125e6a0", func := "undercroft/undercroftlaw16.CleanBest", spec := "cleanBest", unfollowed := true, recurses := true, plainKeys := false, apart := false }
def CleanBestSaid : Prop := cleanBestRow.holds Try.pinned (OpenSpec.ofChange cleanBestSpec)

/-- ITS FALSE NEIGHBOUR: 'it returns false'. Refute it at one input. -/
def cleanBestWrong : ChangeSpec := { name := "cleanBest", fn := fun _ => fun
  | [d] => { results := [.lit (.bool false)], args := [d] }
  | _ => none }
def CleanBestWrongFalsely : Prop := cleanBestRow.holds Try.pinned (OpenSpec.ofChange cleanBestWrong)

/- THE SECOND FORM. 'bulk': how many values and letters a reading holds, each counted each time it is reached (what is shared counts as often as it is met; a slice's spare places count too). A statement '..UptoSaid' is the law's where the arguments, and the package variables that the reading takes, are together of bulk at most 1048576: NARROWER than '..Said'. Prove '..Said' where nothing that the law and all that it calls make is longer than what came in: it says more and counts as full. Else prove '..UptoSaid'. A law counts once. -/
mutual
def uptoBulk {H : Type} : DataW H → Nat
  | .lit (.string bytes) => bytes.length + 1
  | .lit _ => 1
  | .nil => 1
  | .ptr d => uptoBulk d + 1
  | .slice elems spare => uptoBulkAll elems + uptoBulkAll spare + 1
  | .agg parts => uptoBulkAll parts + 1
  | .iface _ d => uptoBulk d + 1
  | .map entries => uptoBulkEntries entries + 1
  | .held _ => 1
def uptoBulkAll {H : Type} : List (DataW H) → Nat
  | [] => 0
  | d :: r => uptoBulk d + uptoBulkAll r
def uptoBulkEntries {H : Type} : List (Lit × DataW H) → Nat
  | [] => 0
  | x :: r => uptoBulkEntry x + uptoBulkEntries r
def uptoBulkEntry {H : Type} : Lit × DataW H → Nat
  | (.string bytes, d) => bytes.length + uptoBulk d + 1
  | (_, d) => uptoBulk d + 1
 end
def uptoSmall : (H : Type) → List (DataW H) → Bool := fun _ ds => decide (uptoBulkAll ds ≤ 1048576)
def OpenSpec.upto (s : _root_.Go.ChangeSpec) : _root_.Go.OpenSpec := { _root_.Go.OpenSpec.ofChange s with cond := some uptoSmall }

/-- 'undercroftlaw15.LogTells', WHERE WHAT IT READS IS OF BULK AT MOST 1048576: true; the input reads as it did. -/
def logTellsUptoRow : OpenClaim := { program := "ytkpckadicjdieaa", sum := "7a5b557942074bb7514854ff01d2641b2d127a4620821000115e0bb94125e6a0", func := "undercroft/undercroftlaw15.LogTells", spec := "logTells", unfollowed := true, recurses := true, plainKeys := false, apart := false, narrowed := true }
def LogTellsUptoSaid : Prop := logTellsUptoRow.holds Try.pinned (OpenSpec.upto logTellsSpec)

/-- 'undercroftlaw15.LogMap', WHERE WHAT IT READS IS OF BULK AT MOST 1048576: true; the input reads as it did. -/
def logMapUptoRow : OpenClaim := { program := "ytkpckadicjdieaa", sum := "7a5b557942074bb7514854ff01d2641b2d127a4620821000115e0bb94125e6a0", func := "undercroft/undercroftlaw15.LogMap", spec := "logMap", unfollowed := true, recurses := true, plainKeys := false, apart := false, narrowed := true }
def LogMapUptoSaid : Prop := logMapUptoRow.holds Try.pinned (OpenSpec.upto logMapSpec)

/-- 'undercroftlaw15.LogFrees', WHERE WHAT IT READS IS OF BULK AT MOST 1048576: true; the input reads as it did. -/
def logFreesUptoRow : OpenClaim := { program := "ytkpckadicjdieaa", sum := "7a5b557942074bb7514854ff01d2641b2d127a4620821000115e0bb94125e6a0", func := "undercroft/undercroftlaw15.LogFrees", spec := "logFrees", unfollowed := true, recurses := true, plainKeys := false, apart := false, narrowed := true }
def LogFreesUptoSaid : Prop := logFreesUptoRow.holds Try.pinned (OpenSpec.upto logFreesSpec)

/-- 'undercroftlaw15.LogAgain', WHERE WHAT IT READS IS OF BULK AT MOST 1048576: true; the input reads as it did. -/
def logAgainUptoRow : OpenClaim := { program := "ytkpckadicjdieaa", sum := "7a5b557942074bb7514854ff01d2641b2d127a4620821000115e0bb94125e6a0", func := "undercroft/undercroftlaw15.LogAgain", spec := "logAgain", unfollowed := true, recurses := true, plainKeys := false, apart := false, narrowed := true }
def LogAgainUptoSaid : Prop := logAgainUptoRow.holds Try.pinned (OpenSpec.upto logAgainSpec)

/-- 'undercroftlaw16.CleanTells', WHERE WHAT IT READS IS OF BULK AT MOST 1048576: true; the input reads as it did. -/
def cleanTellsUptoRow : OpenClaim := { program := "ytkpckadicjdieaa", sum := "7a5b557942074bb7514854ff01d2641b2d127a4620821000115e0bb94125e6a0", func := "undercroft/undercroftlaw16.CleanTells", spec := "cleanTells", unfollowed := true, recurses := true, plainKeys := false, apart := false, narrowed := true }
def CleanTellsUptoSaid : Prop := cleanTellsUptoRow.holds Try.pinned (OpenSpec.upto cleanTellsSpec)

/-- 'undercroftlaw16.CleanBest', WHERE WHAT IT READS IS OF BULK AT MOST 1048576: true; the input reads as it did. -/
def cleanBestUptoRow : OpenClaim := { program := "ytkpckadicjdieaa", sum := "7a5b557942074bb7514854ff01d2641b2d127a4620821000115e0bb94125e6a0", func := "undercroft/undercroftlaw16.CleanBest", spec := "cleanBest", unfollowed := true, recurses := true, plainKeys := false, apart := false, narrowed := true }
def CleanBestUptoSaid : Prop := cleanBestUptoRow.holds Try.pinned (OpenSpec.upto cleanBestSpec)

end Rows
end Go.Proofs.Ytkpckadicjdieaa
