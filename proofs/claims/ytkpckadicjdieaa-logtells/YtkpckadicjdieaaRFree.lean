/-
  What the document's Free answers.
-/
import Derived.Test.YtkpckadicjdieaaRLive
import Derived.Test.YtkpckadicjdieaaRSeal
namespace Go.Proofs.Ytkpckadicjdieaa
open Go.RowKit


end Go.Proofs.Ytkpckadicjdieaa
