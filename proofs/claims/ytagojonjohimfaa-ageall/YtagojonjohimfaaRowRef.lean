
/-
  Contracts of the document's own answers for layer 2 (places by distance, the owner): what they return, and that nothing that was there is turned.
-/
import Derived.Test.YtagojonjohimfaaRingRef
import Derived.Test.YtagojonjohimfaaLaw0
import Derived.Test.YtagojonjohimfaaRefA
import Derived.Test.YtagojonjohimfaaRowMath
namespace Go.Proofs.Ytagojonjohimfaa
open Go.ChangeShapes Go.WideShapes Go.ChangeAt Go.RowKit

end Go.Proofs.Ytagojonjohimfaa
