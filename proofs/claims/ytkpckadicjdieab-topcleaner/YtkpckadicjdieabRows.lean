/-
  No cell of these rows narrows 'for every input' (looked for: loops, veiled, ifaces, maps, wideKeys, modest, calm, conditions, laid).
  DERIVED. THE GIVEN ROWS OF THIS SEAT. 5 by the template 'for every input the law returns true; each argument reads behind the call as it read before'; 0 by the template 'total and deterministic' (their statements: YtkpckadicjdieabTotals.lean).
  GIVEN WITH THE SEED: the statements are not yours to turn. If you find one false, say at which input.
  Laid BY PROGRAM, IN A SANDBOX (cutbox-rows.mjs): the forced cells as the released guide's own fill.sh prints them over the translation 545b6586965d9b2e… (all of the seat's roots in one cut). By AI agents, Wed Nov 11 2026. No macro, syntax, notation, axiom, sorry.
-/
import Derived.Test.YtkpckadicjdieabChecked
import GoSem.Claim
import GoSem.ClaimJoined
import GoSem.ClaimMapViews
import Derived.JoinedTies
import Derived.KernelRfl
namespace Go.Proofs.Ytkpckadicjdieab
/- THE CELL 'sum', in the pinned program and in every row, IS THE sha256 OF THE DUMP (.gsa) THAT YtkpckadicjdieabProg.lean LOADS. Nothing in Lean hashes anything: it is a label: what it is worth is what the hold of that sum in a sandbox is worth. -/
noncomputable def Try.pinned : Pinned := { name := "ytkpckadicjdieab", sum := "545b6586965d9b2e59216501ae15f7e189399d8a98cc6f19da41aea81224a1f0", checked := Try.checked }
namespace Rows
def none {H : Type} : Left H := { results := [], args := [] }

/-- 'undercroftlaw16.CleanKeeps': WHATEVER THE INPUT: true; the input reads as it did. -/
def cleanKeepsSpec : ChangeSpec := { name := "cleanKeeps", fn := fun _ => fun
  | [d1, d2] => { results := [.lit (.bool true)], args := [d1, d2] }
  | _ => none }
def cleanKeepsRow : OpenClaim := { program := "ytkpckadicjdieab", sum := "545b6586965d9b2e59216501ae15f7e189399d8a98cc6f19da41aea81224a1f0", func := "undercroft/undercroftlaw16.CleanKeeps", spec := "cleanKeeps", unfollowed := true, recurses := true, plainKeys := false, apart := false }
def CleanKeepsSaid : Prop := cleanKeepsRow.holds Try.pinned (OpenSpec.ofChange cleanKeepsSpec)

/-- ITS FALSE NEIGHBOUR: 'it returns false'. Refute it at one input. -/
def cleanKeepsWrong : ChangeSpec := { name := "cleanKeeps", fn := fun _ => fun
  | [d1, d2] => { results := [.lit (.bool false)], args := [d1, d2] }
  | _ => none }
def CleanKeepsWrongFalsely : Prop := cleanKeepsRow.holds Try.pinned (OpenSpec.ofChange cleanKeepsWrong)

/-- 'undercroftlaw16.CleanNever': WHATEVER THE INPUT: true; the input reads as it did. -/
def cleanNeverSpec : ChangeSpec := { name := "cleanNever", fn := fun _ => fun
  | [d1, d2, d3] => { results := [.lit (.bool true)], args := [d1, d2, d3] }
  | _ => none }
def cleanNeverRow : OpenClaim := { program := "ytkpckadicjdieab", sum := "545b6586965d9b2e59216501ae15f7e189399d8a98cc6f19da41aea81224a1f0", func := "undercroft/undercroftlaw16.CleanNever", spec := "cleanNever", unfollowed := true, recurses := true, plainKeys := false, apart := false }
def CleanNeverSaid : Prop := cleanNeverRow.holds Try.pinned (OpenSpec.ofChange cleanNeverSpec)

/-- ITS FALSE NEIGHBOUR: 'it returns false'. Refute it at one input. -/
def cleanNeverWrong : ChangeSpec := { name := "cleanNever", fn := fun _ => fun
  | [d1, d2, d3] => { results := [.lit (.bool false)], args := [d1, d2, d3] }
  | _ => none }
def CleanNeverWrongFalsely : Prop := cleanNeverRow.holds Try.pinned (OpenSpec.ofChange cleanNeverWrong)

/-- 'undercroftlaw16.CleanScores': WHATEVER THE INPUT: true; the input reads as it did. -/
def cleanScoresSpec : ChangeSpec := { name := "cleanScores", fn := fun _ => fun
  | [d1, d2, d3] => { results := [.lit (.bool true)], args := [d1, d2, d3] }
  | _ => none }
def cleanScoresRow : OpenClaim := { program := "ytkpckadicjdieab", sum := "545b6586965d9b2e59216501ae15f7e189399d8a98cc6f19da41aea81224a1f0", func := "undercroft/undercroftlaw16.CleanScores", spec := "cleanScores", plainKeys := false, apart := false }
def CleanScoresSaid : Prop := cleanScoresRow.holds Try.pinned (OpenSpec.ofChange cleanScoresSpec)

/-- ITS FALSE NEIGHBOUR: 'it returns false'. Refute it at one input. -/
def cleanScoresWrong : ChangeSpec := { name := "cleanScores", fn := fun _ => fun
  | [d1, d2, d3] => { results := [.lit (.bool false)], args := [d1, d2, d3] }
  | _ => none }
def CleanScoresWrongFalsely : Prop := cleanScoresRow.holds Try.pinned (OpenSpec.ofChange cleanScoresWrong)

/-- 'undercroftlaw16.CleanOwn': WHATEVER THE INPUT: true; the input reads as it did. -/
def cleanOwnSpec : ChangeSpec := { name := "cleanOwn", fn := fun _ => fun
  | [d1, d2] => { results := [.lit (.bool true)], args := [d1, d2] }
  | _ => none }
def cleanOwnRow : OpenClaim := { program := "ytkpckadicjdieab", sum := "545b6586965d9b2e59216501ae15f7e189399d8a98cc6f19da41aea81224a1f0", func := "undercroft/undercroftlaw16.CleanOwn", spec := "cleanOwn", unfollowed := true, recurses := true, plainKeys := false, apart := false }
def CleanOwnSaid : Prop := cleanOwnRow.holds Try.pinned (OpenSpec.ofChange cleanOwnSpec)

/-- ITS FALSE NEIGHBOUR: 'it returns false'. Refute it at one input. -/
def cleanOwnWrong : ChangeSpec := { name := "cleanOwn", fn := fun _ => fun
  | [d1, d2] => { results := [.lit (.bool false)], args := [d1, d2] }
  | _ => none }
def CleanOwnWrongFalsely : Prop := cleanOwnRow.holds Try.pinned (OpenSpec.ofChange cleanOwnWrong)

/-- 'undercrofttop.TopCleaner': WHATEVER THE INPUT: true; the input reads as it did. -/
def topCleanerSpec : ChangeSpec := { name := "topCleaner", fn := fun _ => fun
  | [d1, d2] => { results := [.lit (.bool true)], args := [d1, d2] }
  | _ => none }
def topCleanerRow : OpenClaim := { program := "ytkpckadicjdieab", sum := "545b6586965d9b2e59216501ae15f7e189399d8a98cc6f19da41aea81224a1f0", func := "undercroft/undercrofttop.TopCleaner", spec := "topCleaner", unfollowed := true, recurses := true, plainKeys := false, apart := false }
def TopCleanerSaid : Prop := topCleanerRow.holds Try.pinned (OpenSpec.ofChange topCleanerSpec)

/-- ITS FALSE NEIGHBOUR: 'it returns false'. Refute it at one input. -/
def topCleanerWrong : ChangeSpec := { name := "topCleaner", fn := fun _ => fun
  | [d1, d2] => { results := [.lit (.bool false)], args := [d1, d2] }
  | _ => none }
def TopCleanerWrongFalsely : Prop := topCleanerRow.holds Try.pinned (OpenSpec.ofChange topCleanerWrong)

/- THE SECOND FORM. 'bulk': how many values and letters a reading holds, each counted each time it is reached (what is shared counts as often as it is met; a slice's spare places count too). A statement '..UptoSaid' is the law's where the arguments, and the package variables that the reading takes, are together of bulk at most 1048576: NARROWER than '..Said'. Prove '..Said' where nothing that the law and all that it calls make is longer than what came in: it says more and counts as full. Else prove '..UptoSaid'. A law counts once. -/
mutual
def uptoBulk {H : Type} : DataW H → Nat
  | .lit (.string bytes) => bytes.length + 1
  | .lit _ => 1
  | .nil => 1
  | .ptr d => uptoBulk d + 1
  | .slice elems spare => uptoBulkAll elems + uptoBulkAll spare + 1
  | .agg parts => uptoBulkAll parts + 1
  | .iface _ d => uptoBulk d + 1
  | .map entries => uptoBulkEntries entries + 1
  | .held _ => 1
def uptoBulkAll {H : Type} : List (DataW H) → Nat
  | [] => 0
  | d :: r => uptoBulk d + uptoBulkAll r
def uptoBulkEntries {H : Type} : List (Lit × DataW H) → Nat
  | [] => 0
  | x :: r => uptoBulkEntry x + uptoBulkEntries r
def uptoBulkEntry {H : Type} : Lit × DataW H → Nat
  | (.string bytes, d) => bytes.length + uptoBulk d + 1
  | (_, d) => uptoBulk d + 1
 end
def uptoSmall : (H : Type) → List (DataW H) → Bool := fun _ ds => decide (uptoBulkAll ds ≤ 1048576)
def OpenSpec.upto (s : _root_.Go.ChangeSpec) : _root_.Go.OpenSpec := { _root_.Go.OpenSpec.ofChange s with cond := some uptoSmall }

/-- 'undercroftlaw16.CleanKeeps', WHERE WHAT IT READS IS OF BULK AT MOST 1048576: true; the input reads as it did. -/
def cleanKeepsUptoRow : OpenClaim := { program := "ytkpckadicjdieab", sum := "545b6586965d9b2e59216501ae15f7e189399d8a98cc6f19da41aea81224a1f0", func := "undercroft/undercroftlaw16.CleanKeeps", spec := "cleanKeeps", unfollowed := true, recurses := true, plainKeys := false, apart := false, narrowed := true }
def CleanKeepsUptoSaid : Prop := cleanKeepsUptoRow.holds Try.pinned (OpenSpec.upto cleanKeepsSpec)

/-- 'undercroftlaw16.CleanNever', WHERE WHAT IT READS IS OF BULK AT MOST 1048576: true; the input reads as it did. -/
def cleanNeverUptoRow : OpenClaim := { program := "ytkpckadicjdieab", sum := "545b6586965d9b2e59216501ae15f7e189399d8a98cc6f19da41aea81224a1f0", func := "undercroft/undercroftlaw16.CleanNever", spec := "cleanNever", unfollowed := true, recurses := true, plainKeys := false, apart := false, narrowed := true }
def CleanNeverUptoSaid : Prop := cleanNeverUptoRow.holds Try.pinned (OpenSpec.upto cleanNeverSpec)

/-- 'undercroftlaw16.CleanScores', WHERE WHAT IT READS IS OF BULK AT MOST 1048576: true; the input reads as it did. -/
def cleanScoresUptoRow : OpenClaim := { program := "ytkpckadicjdieab", sum := "545b6586965d9b2e59216501ae15f7e189399d8a98cc6f19da41aea81224a1f0", func := "undercroft/undercroftlaw16.CleanScores", spec := "cleanScores", plainKeys := false, apart := false, narrowed := true }
def CleanScoresUptoSaid : Prop := cleanScoresUptoRow.holds Try.pinned (OpenSpec.upto cleanScoresSpec)

/-- 'undercroftlaw16.CleanOwn', WHERE WHAT IT READS IS OF BULK AT MOST 1048576: true; the input reads as it did. -/
def cleanOwnUptoRow : OpenClaim := { program := "ytkpckadicjdieab", sum := "545b6586965d9b2e59216501ae15f7e189399d8a98cc6f19da41aea81224a1f0", func := "undercroft/undercroftlaw16.CleanOwn", spec := "cleanOwn", unfollowed := true, recurses := true, plainKeys := false, apart := false, narrowed := true }
def CleanOwnUptoSaid : Prop := cleanOwnUptoRow.holds Try.pinned (OpenSpec.upto cleanOwnSpec)

/-- 'undercrofttop.TopCleaner', WHERE WHAT IT READS IS OF BULK AT MOST 1048576: true; the input reads as it did. -/
def topCleanerUptoRow : OpenClaim := { program := "ytkpckadicjdieab", sum := "545b6586965d9b2e59216501ae15f7e189399d8a98cc6f19da41aea81224a1f0", func := "undercroft/undercrofttop.TopCleaner", spec := "topCleaner", unfollowed := true, recurses := true, plainKeys := false, apart := false, narrowed := true }
def TopCleanerUptoSaid : Prop := topCleanerUptoRow.holds Try.pinned (OpenSpec.upto topCleanerSpec)

end Rows
end Go.Proofs.Ytkpckadicjdieab
