
/-
  What the statements about peers ask first: that the program answers at some peers at all.
-/
import Derived.Test.YtagojonjohimfaaPeerC
import Derived.Test.YtagojonjohimfaaNum
import Derived.Test.YtagojonjohimfaaIntRow
namespace Go.Proofs.Ytagojonjohimfaa
open Go.ChangeShapes Go.WideShapes Go.ChangeAt Go.RowKit

end Go.Proofs.Ytagojonjohimfaa
