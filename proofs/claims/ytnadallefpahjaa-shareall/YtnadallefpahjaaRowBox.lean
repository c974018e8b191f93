
/-
  A block that holds whole items, as a row of them; comparing two rows.
-/
import Derived.Test.YtnadallefpahjaaNodeRow
import Derived.Test.YtnadallefpahjaaOnly
namespace Go.Proofs.Ytnadallefpahjaa
open Go.ChangeShapes Go.WideShapes Go.ChangeAt Go.RowKit

/-- A block that holds whole items reads as a row of them. -/
theorem Box.rowT {w : World} {b n : Nat} {cs : Array Value} (xs : List It) (h : Box w b cs) (hc : cs.toList = xs.flatMap ItV) (hn : n = xs.length) (hm : n ≤ maxLen) : RowT b (b + 1) w (.slice (some ⟨b, 0, none⟩) n n) xs := by
  subst hn
  refine ⟨_, _, rfl, ⟨Nat.le_refl _, fun h => by cases h⟩, hm, fun _ => ⟨b, 0, rfl, Nat.le_refl _, Nat.lt_succ_self _, fun j _ => ⟨?_, ?_⟩⟩⟩
  · rw [Nat.zero_add, h.2.1 j, ← hc]
    simp
  · rw [Nat.zero_add]
    exact h.2.2 j

end Go.Proofs.Ytnadallefpahjaa
