
/-
  Contract of cmp.Compare at ints: which of two numbers is less.
-/
import Derived.Test.YtagojonjohimfaaBase
import Derived.Test.YtagojonjohimfaaRows
namespace Go.Proofs.Ytagojonjohimfaa
open Go.ChangeShapes Go.WideShapes Go.ChangeAt Go.RowKit

/-- Which of two numbers is less. -/
def cmpI (x y : Int) : Int := if x < y then -1 else if y < x then 1 else 0

end Go.Proofs.Ytagojonjohimfaa
