
/-
  Plain mathematics of layer 2: places by their distance from a base, each once; the nearest one from a key on.
-/
import Derived.Test.YtgcdbkhicpfklaaPlaceMath
import Derived.Lib.SlicesCompact
namespace Go.Proofs.Ytgcdbkhicpfklaa

/-! ### Striking out what stands twice -/
/-! ### The owner -/
/-! ### What is answered -/
/-- May the base and the list be sorted? -/
def rowB (b : Int) (xs : List Int) : Bool := decide (xs.length ≤ 64) && plB b && plsB xs
def rowE (b : Int) (xs : List Int) : Int := if rowB b xs = true then 0 else 200
/-! ### The sorted list, place by place -/
/-! ### In another row -/
end Go.Proofs.Ytgcdbkhicpfklaa
