
/-
  New rows of a call's own, and what stays of them and of blocks behind a call.
-/
import Derived.Test.YtnadallefpahjaaOnly
namespace Go.Proofs.Ytnadallefpahjaa
open Go.ChangeShapes Go.WideShapes Go.ChangeAt Go.RowKit

theorem Box.belowAt {B : Nat} {w w' : World} {b : Nat} {xs : Array Value} (h : Box w b xs) (hb : Below B w w') (hB : b < B) : Box w' b xs :=
  ⟨Nat.lt_of_lt_of_le h.1 hb.size, fun o => (hb.cell (p := ⟨b, o, none⟩) hB).trans (h.2.1 o), fun o => (hb.frozen (p := ⟨b, o, none⟩) hB).trans (h.2.2 o)⟩

/-- A block that is not among those that have turned stays. -/
theorem Box.only {lo hi b : Nat} {w w' : World} {xs : Array Value} (h : Box w b xs) (hS : Only lo hi w w') (hb : b < lo ∨ hi ≤ b) : Box w' b xs :=
  ⟨by rw [hS.size]; exact h.1, fun o => (hS.cell b o hb).trans (h.2.1 o), fun o => (hS.frozen b o).trans (h.2.2 o)⟩

/-- A row of the call's own stays behind a call. -/
theorem ownsRow_below {w w' : World} {base : Nat} {e : TypeId} {size : Nat} {v : Value} {n : Nat} {xs : List Value} (h : w.ownsRow base e size v n xs) (hb : Below w.heap.size w w') : w'.ownsRow base e size v n xs :=
  h.kept (row := none) ⟨hb.os, hb.tape, hb.output, hb.size, fun k hk _ => hb.block k hk⟩ (by cases hv : v.ownBlock <;> simp)
theorem lit1_at {w : World} {base b : Nat} {t : TypeId} {x : Value} (hb : base ≤ b) (e : b = w.heap.size) : (w.alloc (.cells #[x] t)).ownsRow base t 1 (.slice (some ⟨b, 0, none⟩) 1 1) 1 [x] := by
  subst e
  exact World.ownsRow_lit w #[x] 1 hb (by decide) (by simp)
theorem lit_at {w : World} {base b size : Nat} {t : TypeId} (hb : base ≤ b) (e : b = w.heap.size) : (w.alloc (.cells #[] t)).ownsRow base t size (.slice (some ⟨b, 0, none⟩) 0 0) 0 [] := by
  subst e
  exact World.ownsRow_lit w #[] 0 hb (Nat.zero_le _) (by simp)

end Go.Proofs.Ytnadallefpahjaa
