
/-
  Plain facts on numbers that wrap round.
-/
import Derived.Test.YtnadallefpahjaaBase
import Derived.Test.YtnadallefpahjaaPlaceMath
import Derived.Laws.BitsLemmas
namespace Go.Proofs.Ytnadallefpahjaa
open Go.ChangeShapes Go.WideShapes Go.ChangeAt Go.RowKit

theorem w64_in (n : Int) (h : 0 ≤ n ∧ n ≤ 9223372036854775807) : wrap64 n = n := by unfold wrap64; omega
end Go.Proofs.Ytnadallefpahjaa
