
/-
  A block that holds whole items, as a row of them; comparing two rows.
-/
import Derived.Test.YtekefbhpkpoghaaItemRow
import Derived.Test.YtekefbhpkpoghaaBox
namespace Go.Proofs.Ytekefbhpkpoghaa
open Go.ChangeShapes Go.WideShapes Go.ChangeAt Go.RowKit

/-- A block that holds whole items reads as a row of them. -/
theorem Box.rowT {w : World} {b n : Nat} {cs : Array Value} (xs : List It) (h : Box w b cs) (hc : cs.toList = xs.flatMap ItV) (hn : n = xs.length) (hm : n ≤ maxLen) : RowT b (b + 1) w (.slice (some ⟨b, 0, none⟩) n n) xs := by
  subst hn
  refine ⟨_, _, rfl, ⟨Nat.le_refl _, fun h => by cases h⟩, hm, fun _ => ⟨b, 0, rfl, Nat.le_refl _, Nat.lt_succ_self _, fun j _ => ⟨?_, ?_⟩⟩⟩
  · rw [Nat.zero_add, h.2.1 j, ← hc]
    simp
  · rw [Nat.zero_add]
    exact h.2.2 j

theorem same_at {lo hi lo' hi' : Nat} {w : World} {v u : Value} {xs ys : List It} (hx : RowT lo hi w v xs) (hy : RowT lo' hi' w u ys) {b : Bool} (hB : decide (xs = ys) = b) :
    Calls Try.prog 10 #[v, u] w fun e w' => e = .returned (.bool b) ∧ Below w.heap.size w w' :=
  hB ▸ (sameItems_any hx hy).mono fun _ _ ⟨he, q, hq⟩ => ⟨he, hq ▸ (Below.refl _ w).onD q⟩

end Go.Proofs.Ytekefbhpkpoghaa
