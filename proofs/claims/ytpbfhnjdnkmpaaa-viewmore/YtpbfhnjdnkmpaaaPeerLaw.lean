
/-
  What the statements about peers ask first: that the program answers at some peers at all.
-/
import Derived.Test.YtpbfhnjdnkmpaaaPeerC
import Derived.Test.YtpbfhnjdnkmpaaaNum
import Derived.Test.YtpbfhnjdnkmpaaaIntRow
namespace Go.Proofs.Ytpbfhnjdnkmpaaa
open Go.ChangeShapes Go.WideShapes Go.ChangeAt Go.RowKit

end Go.Proofs.Ytpbfhnjdnkmpaaa
