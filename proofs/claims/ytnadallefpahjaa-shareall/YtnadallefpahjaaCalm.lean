
/-
  A region that draws its order, whose operations only read old memory and whose callees may make memory of their own: one walk in the order of the text serves every order.
-/
import Derived.Test.YtnadallefpahjaaBase
import Derived.Test.YtnadallefpahjaaOnly
namespace Go.Proofs.Ytnadallefpahjaa
open Go.RowKit

theorem wp_region_below {P : Program} {id : Nat} {Q : Exit → Act → World → Prop} {a : Act} {w : World} {l : List Oper} (hm : P.follows .mixedOrders = true) (hB : Region.lexB .any l.toArray = true)
    (h : wpQuiet P l.toArray (fun w' => Below w.heap.size w w') (fun a' => ∀ w', Below w.heap.size w w' → Q .normal a' w') l a) : (Code.region id l.toArray true).wp P Q a w :=
  wp_region_quiet (C := fun w' => Below w.heap.size w w') hm hB ((Below.refl _ w).onD 1) (by simpa using h)

end Go.Proofs.Ytnadallefpahjaa
