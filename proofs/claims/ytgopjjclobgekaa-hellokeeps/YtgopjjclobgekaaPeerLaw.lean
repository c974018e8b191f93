
/-
  What the statements about peers ask first: that the program answers at some peers at all.
-/
import Derived.Test.YtgopjjclobgekaaPeerC
import Derived.Test.YtgopjjclobgekaaNum
import Derived.Test.YtgopjjclobgekaaIntRow
namespace Go.Proofs.Ytgopjjclobgekaa
open Go.ChangeShapes Go.WideShapes Go.ChangeAt Go.RowKit

end Go.Proofs.Ytgopjjclobgekaa
